/-
 Plain mathematics of reading a knot: a right knot's text has just its words ahead of the colon, and two right knots with one text are one; no program in it.
-/
import Derived.Laws.BitsAllLaws
import Derived.Laws.Bits128
import Derived.WalkKit
import Derived.Test.YtadbafppodhfpaaGreatDoorChecked
import Derived.BigQuiet
import Derived.Deep.RegionHeld3
import Derived.Deep.CutBlock
import Derived.Deep.QuietTactic
import Derived.WalkSmall
import Derived.Deep.RegionWith
import Derived.Deep.DeepCutAuto
set_option linter.unusedVariables false
namespace Go.Proofs.YtadbafppodhfpaaGreatDoor.Bit
end Go.Proofs.YtadbafppodhfpaaGreatDoor.Bit
namespace Go.Proofs.YtadbafppodhfpaaGreatDoor
open Go.RowKit
set_option maxRecDepth 100000
namespace Base
theorem ret_bool {a b : Bool} (h : a = b) : Ending.returned (.bool a) = .returned (.bool b) := by rw [h]
theorem l1In (x lo hi : Int) (w : World) : Calls Tryz.prog 38 #[.int .i64 x, .int .i64 lo, .int .i64 hi] w fun e w' => e = .returned (.bool (decide (lo ≤ x) && decide (x ≤ hi))) ∧ w = w' := by
 by_cases h1 : lo ≤ x
 · go_enter Tryz.func38, Tryz.ntmps38
   go_wp2
   go_ret
   exact ⟨ret_bool (by simp [h1]), rfl⟩
 · go_enter Tryz.func38, Tryz.ntmps38
   go_wp2
   go_ret
   exact ⟨ret_bool (by simp; omega), rfl⟩
end Base
end Go.Proofs.YtadbafppodhfpaaGreatDoor
namespace Go.Proofs.YtadbafppodhfpaaGreatDoor
open Go.RowKit
set_option maxRecDepth 100000
namespace Kn
theorem take_snoc (s : ByteArray) (k : Nat) (h : k < s.size) : s.data.toList.take (k + 1) = s.data.toList.take k ++ [s[k]] := by
 rw [List.take_succ_eq_append_getElem (by simpa using h)]; rfl
theorem take_all (s : ByteArray) : s.data.toList.take s.size = s.data.toList := List.take_of_length_le (by simp)
end Kn
end Go.Proofs.YtadbafppodhfpaaGreatDoor
namespace Go.Proofs.YtadbafppodhfpaaGreatDoor
open Go.RowKit
set_option maxRecDepth 100000
set_option linter.unusedVariables false
namespace De
def okL (c : UInt8) : Bool := decide (97 ≤ c.toNat) && decide (c.toNat ≤ 122)
def keyB (s : ByteArray) : Bool := s.data.toList.all okL && (decide (1 ≤ s.size) && decide (s.size ≤ 3))
theorem allL_snoc (s : ByteArray) (k : Nat) (h : k < s.size) : (s.data.toList.take (k + 1)).all okL = ((s.data.toList.take k).all okL && okL s[k]) := by
 rw [Kn.take_snoc s k h]; simp
set_option maxHeartbeats 1600000 in
theorem l16Key (s : ByteArray) (w : World) (hs : s.size ≤ 1099511627776) : Calls Tryz.prog 37 #[.string s] w fun e w' => e = .returned (.bool (keyB s)) ∧ w = w' := by
 have HIN : Hid (∀ W : World, Calls Tryz.prog 38 #[.int .i64 (s.size : Int), .int .i64 1, .int .i64 3] W fun e w' => e = .returned (.bool (decide ((1 : Int) ≤ (s.size : Int)) && decide ((s.size : Int) ≤ 3))) ∧ W = w') := fun W => Base.l1In (s.size : Int) 1 3 W
 go_enter Tryz.func37, Tryz.ntmps37
 go_wp2
 go_loop [3] (fun i => ∃ k : Nat, k ≤ s.size ∧ i = .int .i64 k ∧ Hid ((s.data.toList.take k).all okL = true)) (fun i => s.size - (intOf i).toNat)
 case atStart => exact ⟨0, Nat.zero_le _, rfl, rfl⟩
 case round =>
   obtain ⟨k, hk, rfl, HA⟩ := hrel
   by_cases hlt : k < s.size
   · have HS : Hid ((s.data.toList.take (k + 1)).all okL = ((s.data.toList.take k).all okL && okL s[k])) := allL_snoc s k hlt
     have HO : Hid (okL s[k] = true ↔ (97 ≤ (s[k].toNat : Int) ∧ (s[k].toNat : Int) ≤ 122)) := by
       show _ ↔ _
       simp [okL]; omega
     have HB : Hid (okL s[k] = false → keyB s = false) := by
       intro h
       have hm : s[k] ∈ s.data.toList := by
         have hk2 : k < s.data.toList.length := by simpa using hlt
         have e : s[k] = s.data.toList[k] := rfl
         rw [e]; exact List.getElem_mem hk2
       unfold keyB
       have : s.data.toList.all okL = false := by
         rw [List.all_eq_false]; exact ⟨s[k], hm, by simp [h]⟩
       rw [this]; rfl
     by_cases c1 : (97 : Int) ≤ (s[k].toNat : Int) ∧ (s[k].toNat : Int) ≤ 122
     · have HC : Hid ((s.data.toList.take (k + 1)).all okL = true) := by
         show _ = true
         rw [HS.out, HA.out, HO.out.2 c1]; rfl
       obtain ⟨c1, c1'⟩ := c1
       clear HIN HS HO HB
       go_wp2
       go_round
       case rel => exact ⟨k + 1, by omega, by go_num, HC⟩
       case measure => simp [intOf]; omega
     · have HC : Hid (keyB s = false) := by
         apply HB.out
         cases h : okL s[k]
         · rfl
         · exfalso; exact c1 (HO.out.1 h)
       clear HS HO HB HA HIN
       by_cases d1 : (s[k].toNat : Int) < 97
       · clear c1
         go_wp2
         go_ret
         exact ⟨Base.ret_bool HC.out.symm, rfl⟩
       · have d4 : 122 < (s[k].toNat : Int) := by omega
         clear c1
         go_wp2
         go_ret
         exact ⟨Base.ret_bool HC.out.symm, rfl⟩
   · have hk' : k = s.size := by omega
     have HT : Hid (keyB s = (decide ((1 : Int) ≤ (s.size : Int)) && decide ((s.size : Int) ≤ 3))) := by
       show _ = _
       unfold keyB
       have := HA.out
       rw [hk', Kn.take_all] at this
       rw [this, Bool.true_and]
       congr 1 <;> exact decide_eq_decide.2 (by omega)
     go_wp2_with (go_at_call 38; refine (HIN.out _).mono ?_; rintro e w' ⟨rfl, rfl⟩)
     go_ret
     exact ⟨Base.ret_bool HT.out.symm, rfl⟩
structure D where
 kind : Int
 key : ByteArray
 val : Int
 new : Int
def okD (d : D) : Bool := (decide (1 ≤ d.kind) && decide (d.kind ≤ 4)) && (keyB d.key && ((decide (0 ≤ d.val) && decide (d.val ≤ 99)) && ((decide (0 ≤ d.new) && decide (d.new ≤ 99)) && (((d.kind != 2) || (d.val == 0)) && ((d.kind == 4) || (d.new == 0))))))
set_option maxHeartbeats 1600000 in
theorem specDeedOk (kind : Int) (key : ByteArray) (val new : Int) (w : World) (hs : key.size ≤ 1099511627776) : Calls Tryz.prog 35 #[.agg #[.int .i64 kind, .string key, .int .i64 val, .int .i64 new]] w fun e w' =>
   e = .returned (.bool (okD ⟨kind, key, val, new⟩)) ∧ Below w.heap.size w w' := by
 have HO : Hid (okD ⟨kind, key, val, new⟩ = ((decide (1 ≤ kind) && decide (kind ≤ 4)) && (keyB key && ((decide (0 ≤ val) && decide (val ≤ 99)) && ((decide (0 ≤ new) && decide (new ≤ 99)) && (((kind != 2) || (val == 0)) && ((kind == 4) || (new == 0)))))))) := rfl
 have I1 : Hid (∀ W : World, Calls Tryz.prog 38 #[.int .i64 kind, .int .i64 1, .int .i64 4] W fun e w' => e = .returned (.bool (decide (1 ≤ kind) && decide (kind ≤ 4))) ∧ W = w') := fun W => Base.l1In kind 1 4 W
 have I2 : Hid (∀ W : World, Calls Tryz.prog 37 #[.string key] W fun e w' => e = .returned (.bool (keyB key)) ∧ W = w') := fun W => l16Key key W hs
 have I3 : Hid (∀ W : World, Calls Tryz.prog 38 #[.int .i64 val, .int .i64 0, .int .i64 99] W fun e w' => e = .returned (.bool (decide (0 ≤ val) && decide (val ≤ 99))) ∧ W = w') := fun W => Base.l1In val 0 99 W
 have I4 : Hid (∀ W : World, Calls Tryz.prog 38 #[.int .i64 new, .int .i64 0, .int .i64 99] W fun e w' => e = .returned (.bool (decide (0 ≤ new) && decide (new ≤ 99))) ∧ W = w') := fun W => Base.l1In new 0 99 W
 have B1 : Hid (∀ o : Obj, Below w.heap.size w (w.alloc o)) := fun o => (Below.refl _ _).alloc (Nat.le_refl _) o
 generalize okD ⟨kind, key, val, new⟩ = ok at HO ⊢
 generalize (decide (1 ≤ kind) && decide (kind ≤ 4)) = b1 at HO I1
 generalize keyB key = b2 at HO I2
 generalize (decide (0 ≤ val) && decide (val ≤ 99)) = b3 at HO I3
 generalize (decide (0 ≤ new) && decide (new ≤ 99)) = b4 at HO I4
 generalize h5 : (kind != 2) = b5 at HO
 generalize h6 : (val == 0) = b6 at HO
 generalize h7 : (kind == 4) = b7 at HO
 generalize h8 : (new == 0) = b8 at HO
 clear hs
 go_enter Tryz.func35, Tryz.ntmps35
 go_wp2_with fail
 refine (I1.out _).mono ?_
 rintro e w1 ⟨rfl, rfl⟩
 cases b1
 · go_wp2
   go_ret
   exact ⟨Base.ret_bool (by rw [HO.out]; rfl), B1.out _⟩
 go_wp2_with fail
 refine (I2.out _).mono ?_
 rintro e w1 ⟨rfl, rfl⟩
 cases b2
 · go_wp2
   go_ret
   exact ⟨Base.ret_bool (by rw [HO.out]; rfl), B1.out _⟩
 go_wp2_with fail
 refine (I3.out _).mono ?_
 rintro e w1 ⟨rfl, rfl⟩
 cases b3
 · go_wp2
   go_ret
   exact ⟨Base.ret_bool (by rw [HO.out]; rfl), B1.out _⟩
 go_wp2_with fail
 refine (I4.out _).mono ?_
 rintro e w1 ⟨rfl, rfl⟩
 cases b4
 · go_wp2
   go_ret
   exact ⟨Base.ret_bool (by rw [HO.out]; rfl), B1.out _⟩
 cases b5 <;> cases b6 <;> cases b7 <;> cases b8 <;>
 · go_wp2
   go_ret
   exact ⟨Base.ret_bool (by rw [HO.out]; rfl), B1.out _⟩
end De
end Go.Proofs.YtadbafppodhfpaaGreatDoor
namespace Go.Proofs.YtadbafppodhfpaaGreatDoor
open Go.RowKit
set_option maxRecDepth 100000
namespace Memb
def Own (B : Nat) (w : World) (ao : Option Addr) (cap : Nat) (l : List Int) : Prop := w.ownsRow B 2 1 (.slice ao l.length cap) l.length (l.map (Value.int .i64))
theorem own_shape {B : Nat} {w : World} {v : Value} {l : List Int} (h : w.ownsRow B 2 1 v l.length (l.map (Value.int .i64))) : ∃ ao cap, v = .slice ao l.length cap ∧ Own B w ao cap l := by
 have h' := h
 obtain ⟨_, ⟨hv, hn⟩ | ⟨g, cap, cur, hv, _⟩⟩ := h'
 · refine ⟨none, 0, by rw [hn]; exact hv, ?_⟩
   unfold Own; rw [hn] at h ⊢; rw [← hv]; exact h
 · refine ⟨some ⟨g, 0, none⟩, cap, hv, ?_⟩
   unfold Own; rw [← hv]; exact h
end Memb
end Go.Proofs.YtadbafppodhfpaaGreatDoor
namespace Go.Proofs.YtadbafppodhfpaaGreatDoor
open Go.RowKit
set_option maxRecDepth 100000
namespace Kn
def dig (n : Nat) : UInt8 := UInt8.ofNat (48 + n % 10)
def decF : Nat → Nat → List UInt8
 | 0, _ => []
 | f + 1, n => if n < 10 then [dig n] else decF f (n / 10) ++ [dig n]
def dec (n : Nat) : List UInt8 := decF 12 n
theorem decF_more (f n : Nat) (h : n < 10 ^ f) : decF (f + 1) n = decF (f + 2) n := by
 induction f generalizing n with
 | zero => have : n = 0 := by simpa using h
           subst this; rfl
 | succ f ih =>
   have e1 : decF (f + 1 + 1) n = if n < 10 then [dig n] else decF (f + 1) (n / 10) ++ [dig n] := rfl
   have e2 : decF (f + 1 + 2) n = if n < 10 then [dig n] else decF (f + 2) (n / 10) ++ [dig n] := rfl
   rw [e1, e2]
   by_cases hn : n < 10
   · simp [hn]
   · simp only [hn, if_false]
     rw [ih (n / 10) (by rw [Nat.pow_succ] at h; omega)]
theorem dec_small (n : Nat) (h : n < 10) : dec n = [dig n] := by unfold dec; rw [decF]; simp [h]
theorem dec_big (n : Nat) (h : 10 ≤ n) (h2 : n < 100000000000) : dec n = dec (n / 10) ++ [dig n] := by
 unfold dec
 have hn : ¬ n < 10 := by omega
 have e : decF 12 n = decF 11 (n / 10) ++ [dig n] := by rw [decF, if_neg hn]
 rw [e, decF_more 10 (n / 10) (by omega)]
def B (l : List UInt8) : ByteArray := ⟨l.toArray⟩
def emptyOf : Value → Nat
 | .string b => if b.size = 0 then 1 else 0
 | _ => 0
theorem B_size (l : List UInt8) : (B l).size = l.length := by simp [B, ByteArray.size]
theorem B_app (a b : List UInt8) : B a ++ B b = B (a ++ b) := by
 apply ByteArray.ext; simp [B]
theorem nums_dig (m : Nat) : strOfNums [48 + (m : Int) % 10] = B [dig m] := by
 unfold strOfNums B dig
 have e : (48 + (m : Int) % 10).toNat = 48 + m % 10 := by omega
 simp [e]
theorem B_list (l : List UInt8) : (B l).toList = l := ByteArray.toList_mk l
theorem conv1 (W : World) (m : Nat) : (convert 22 9 (.slice (some ⟨W.heap.size, 0, none⟩) 1 1)).run Tryz.prog (W.alloc (.cells #[.int .u8 (48 + (m : Int) % 10)] 5)) = .ok (.string (B [dig m])) (W.alloc (.cells #[.int .u8 (48 + (m : Int) % 10)] 5)) := by
 have h := run_convert_bytes_arg (P := Tryz.prog) (W.alloc (.cells #[.int .u8 (48 + (m : Int) % 10)] 5)) 22 5 Tryz.underlying22 Tryz.underlying5 W.heap.size 0 1 1 [48 + (m : Int) % 10] rfl
   (fun i hi => by obtain rfl : i = 0 := (by omega); simp) 9 Tryz.underlying9
 rw [nums_dig] at h
 exact h
theorem len_step (n m len : Nat) (hn : n < 10000000000) (h : m * 10 ^ len ≤ n) (hc : len = 0 ∨ m ≠ 0) : len + 1 ≤ 11 ∧ m / 10 * 10 ^ (len + 1) ≤ n := by
 constructor
 · rcases hc with hc | hc
   · omega
   · have h1 : 10 ^ len ≤ m * 10 ^ len := Nat.le_mul_of_pos_left _ (by omega)
     apply Classical.byContradiction
     intro hlt
     have h2 : 10 ^ 10 ≤ 10 ^ len := Nat.pow_le_pow_right (by omega) (by omega)
     omega
 · have e : m / 10 * 10 ^ (len + 1) = (m / 10 * 10) * 10 ^ len := by rw [Nat.pow_succ, Nat.mul_comm (10 ^ len) 10, Nat.mul_assoc]
   rw [e]
   exact Nat.le_trans (Nat.mul_le_mul_right _ (Nat.div_mul_le_self m 10)) h
theorem dec_step (n m : Nat) (s : List UInt8) (hn : n < 10000000000) (hm : m ≤ n) (hc : s = [] ∨ m ≠ 0) (h : dec n = if s = [] ∨ m ≠ 0 then dec m ++ s else s) :
   dec n = if (dig m :: s) = [] ∨ m / 10 ≠ 0 then dec (m / 10) ++ (dig m :: s) else (dig m :: s) := by
 rw [if_pos hc] at h
 by_cases h10 : m < 10
 · have e : m / 10 = 0 := by omega
   rw [h, dec_small m h10, e]; simp
 · have e : m / 10 ≠ 0 := by omega
   rw [if_pos (.inr e), h, dec_big m (by omega) (by omega)]; simp
set_option maxHeartbeats 1600000 in
theorem l1Int (n : Nat) (w : World) (hn : n < 10000000000) : Calls Tryz.prog 49 #[.int .i64 (n : Int)] w fun e w' => e = .returned (.string (B (dec n))) ∧ Below w.heap.size w w' := by
 have kc := conv1
 have hn0 : decide ((n : Int) < 0) = false := by simp
 go_enter Tryz.func49, Tryz.ntmps49
 go_wp2
 go_loopw [0, 3] (fun v t wr => ∃ (m : Nat) (s : List UInt8), v = .int .i64 (m : Int) ∧ t = .string (B s) ∧ m ≤ n ∧ Hid (dec n = if s = [] ∨ m ≠ 0 then dec m ++ s else s) ∧ s.length ≤ 11 ∧ Hid (m * 10 ^ s.length ≤ n) ∧ Below w.heap.size w wr ∧ w.heap.size ≤ wr.heap.size) (fun v t _ => 2 * (intOf v).toNat + emptyOf t)
 case atStart => exact ⟨n, [], rfl, rfl, Nat.le_refl _, by show _ = _; simp, by simp, by show _ ≤ _; simp, Below.refl _ _, Nat.le_refl _⟩
 case round =>
   obtain ⟨m, s, rfl, rfl, hm, HD, hl, HL, hb, hB⟩ := hrel
   have hsz := B_size s
   have hsz1 : ∀ x : Nat, (B [dig x]).size = 1 := fun x => B_size _
   have hls := B_list s
   by_cases hc : s = [] ∨ m ≠ 0
   · have HN : Hid (dec n = if (dig m :: s) = [] ∨ m / 10 ≠ 0 then dec (m / 10) ++ (dig m :: s) else (dig m :: s)) := dec_step n m s hn hm hc HD.out
     have hstep := len_step n m s.length hn HL.out (hc.elim (fun h => .inl (by simp [h])) .inr)
     have HL' : Hid (m / 10 * 10 ^ (dig m :: s).length ≤ n) := hstep.2
     have HE : Hid (B [dig m] ++ B s = B (dig m :: s)) := B_app [dig m] s
     have hs1 := hstep.1
     clear hstep
     have hend : emptyOf (.string (B (dig m :: s))) = 0 := by simp [emptyOf, B_size]
     by_cases hs : s = []
     · have hem : s.isEmpty = true := by simp [hs]
       have hbe : emptyOf (.string (B s)) = 1 := by simp [emptyOf, B_size, hs]
       clear hs hc
       go_wp2
       go_roundw
       case rel => exact ⟨m / 10, dig m :: s, by go_num, by rw [HE.out], by omega, HN, by simpa using hs1, HL', hb.alloc hB _, by simp; omega⟩
       case measure => rw [HE.out, hend, hbe]; simp [intOf]; omega
     · have hem : s.isEmpty = false := by simp [hs]
       have hm0 : m ≠ 0 := hc.elim (fun h => absurd h hs) id
       have hbe : emptyOf (.string (B s)) = 0 := by
         have : 0 < s.length := List.length_pos_iff.2 hs
         simp [emptyOf, B_size]; omega
       have hmb : ((m : Int) != 0) = true := by simp; omega
       clear hc
       go_wp2
       go_roundw
       case rel => exact ⟨m / 10, dig m :: s, by go_num, by rw [HE.out], by omega, HN, by simpa using hs1, HL', hb.alloc hB _, by simp; omega⟩
       case measure => rw [HE.out, hend, hbe]; simp [intOf]; omega
   · have hs : s ≠ [] := fun h => hc (.inl h)
     have hm0 : m = 0 := by
       apply Classical.byContradiction; intro h; exact hc (.inr h)
     have hem : s.isEmpty = false := by simp [hs]
     have HF : Hid (dec n = s) := by
       show dec n = s
       have := HD.out
       rwa [if_neg hc] at this
     clear hc
     subst hm0
     go_wp2
     go_ret
     exact ⟨by rw [HF.out]; rfl, hb⟩
theorem isE (s : ByteArray) (h : s.size = 0) : s.toList.isEmpty = true := by
 rw [ByteArray.toList_eq, List.isEmpty_iff]
 exact List.length_eq_zero_iff.1 (by simpa using h)
theorem isN (s : ByteArray) (h : ¬ s.size = 0) : s.toList.isEmpty = false := by
 cases he : s.toList.isEmpty
 · rfl
 · exfalso
   rw [ByteArray.toList_eq, List.isEmpty_iff] at he
   have := congrArg List.length he
   exact h (by simpa using this)
end Kn
end Go.Proofs.YtadbafppodhfpaaGreatDoor
namespace Go.Proofs.YtadbafppodhfpaaGreatDoor
open Go.RowKit
set_option maxRecDepth 100000
namespace Kn
def splitGo (by' : UInt8) : List UInt8 → List UInt8 → List (List UInt8)
 | cur, [] => [cur]
 | cur, c :: r => if c = by' then cur :: splitGo by' [] r else splitGo by' (cur ++ [c]) r
def split (by' : UInt8) (l : List UInt8) : List (List UInt8) := splitGo by' [] l
theorem infoS : (Tryz.prog.info? 9).map (fun i => (i.zero, i.size, i.bytes)) = some (some (.string ⟨#[]⟩), 1, 16) := by kernel_rfl
def S (l : List UInt8) : Value := .string (B l)
def OwnS (base : Nat) (w : World) (ao : Option Addr) (cap : Nat) (L : List (List UInt8)) : Prop := w.ownsRow base 9 1 (.slice ao L.length cap) L.length (L.map S)
theorem ownS_shape {base : Nat} {w : World} {v : Value} {L : List (List UInt8)} (h : w.ownsRow base 9 1 v L.length (L.map S)) : ∃ ao cap, v = .slice ao L.length cap ∧ OwnS base w ao cap L := by
 have h' := h
 obtain ⟨_, ⟨hv, hn⟩ | ⟨g, cap, cur, hv, _⟩⟩ := h'
 · refine ⟨none, 0, by rw [hn]; exact hv, ?_⟩
   unfold OwnS; rw [hn] at h ⊢; rw [← hv]; exact h
 · refine ⟨some ⟨g, 0, none⟩, cap, hv, ?_⟩
   unfold OwnS; rw [← hv]; exact h
theorem relS_put {base : Nat} {w wr w1 : World} {v v' : Value} {o : Obj} {l : List (List UInt8)} {x : List UInt8} (hB : base ≤ wr.heap.size)
   (hown : wr.ownsRow base 9 1 v l.length (l.map S)) (hnx : Below base w wr)
   (hown' : w1.ownsRow base 9 1 v' (l.length + 1) (l.map S ++ [S x])) (hgrow : (wr.alloc o).grownBy w1 v.ownBlock) :
   w1.ownsRow base 9 1 v' (l ++ [x]).length ((l ++ [x]).map S) ∧ Below base w w1 ∧ base ≤ w1.heap.size := by
 have hbel := (hnx.alloc hB o).grown hgrow (by simp; omega) (fun j hj => (hown.lt j hj).1)
 refine ⟨by simpa using hown', hbel, ?_⟩
 have := hgrow.size; simp at this; omega
def sub (s : ByteArray) (f k : Nat) : List UInt8 := (s.data.toList.drop f).take (k - f)
theorem sub_extract (s : ByteArray) (f k : Nat) (_h : f ≤ k) (_hk : k ≤ s.size) : s.extract f k = B (sub s f k) := by
 apply ByteArray.ext
 apply Array.ext'
 simp [B, sub, ByteArray.data_extract, Array.toList_extract, List.extract_eq_take_drop]
theorem sub_snoc (s : ByteArray) (f k : Nat) (h : f ≤ k) (hk : k < s.size) : sub s f (k + 1) = sub s f k ++ [s[k]] := by
 unfold sub
 have hk2 : k < s.data.toList.length := by simpa using hk
 rw [show k + 1 - f = (k - f) + 1 from by omega, List.take_succ_eq_append_getElem (by simp; omega)]
 congr 1
 simp only [List.getElem_drop]
 have e : f + (k - f) = k := by omega
 simp only [e]
 rfl
theorem sub_self (s : ByteArray) (k : Nat) : sub s k k = [] := by simp [sub]
theorem drop_get (s : ByteArray) (k : Nat) (hk : k < s.size) : s.data.toList.drop k = s[k] :: s.data.toList.drop (k + 1) := by
 have hk2 : k < s.data.toList.length := by simpa using hk
 rw [List.drop_eq_getElem_cons hk2]; rfl
theorem ownS_empty (w : World) : (w.alloc (.cells #[] 9)).ownsRow w.heap.size 9 1 (.slice (some ⟨w.heap.size, 0, none⟩) 0 0) 0 [] :=
 World.ownsRow_lit w #[] 0 (Nat.le_refl _) (by unfold maxLen; omega) rfl
def Upto (s : ByteArray) (by' : UInt8) (k f : Nat) (D : List (List UInt8)) : Prop :=
 D.length ≤ k ∧ ((k ≤ s.size ∧ f ≤ k ∧ split by' s.data.toList = D ++ splitGo by' (sub s f k) (s.data.toList.drop k)) ∨ (k = s.size + 1 ∧ D = split by' s.data.toList))
theorem upto_start (s : ByteArray) (by' : UInt8) : Upto s by' 0 0 [] := ⟨by simp, .inl ⟨by omega, by omega, by simp [split, sub]⟩⟩
theorem upto_hit (s : ByteArray) (by' : UInt8) (k f : Nat) (D : List (List UInt8)) (h : Upto s by' k f D) (hk : k < s.size) (hc : s[k] = by') : Upto s by' (k + 1) (k + 1) (D ++ [sub s f k]) := by
 obtain ⟨h1, ⟨_, h3, h4⟩ | ⟨h2, _⟩⟩ := h
 · refine ⟨by simp; omega, .inl ⟨by omega, by omega, ?_⟩⟩
   rw [h4, drop_get s k hk, splitGo, if_pos hc, sub_self]; simp
 · omega
theorem upto_miss (s : ByteArray) (by' : UInt8) (k f : Nat) (D : List (List UInt8)) (h : Upto s by' k f D) (hk : k < s.size) (hc : s[k] ≠ by') : Upto s by' (k + 1) f D := by
 obtain ⟨h1, ⟨_, h3, h4⟩ | ⟨h2, _⟩⟩ := h
 · refine ⟨by omega, .inl ⟨by omega, by omega, ?_⟩⟩
   rw [h4, drop_get s k hk, splitGo, if_neg hc, sub_snoc s f k h3 hk]
 · omega
theorem upto_end (s : ByteArray) (by' : UInt8) (f : Nat) (D : List (List UInt8)) (h : Upto s by' s.size f D) : Upto s by' (s.size + 1) (s.size + 1) (D ++ [sub s f s.size]) := by
 obtain ⟨h1, ⟨_, h3, h4⟩ | ⟨h2, _⟩⟩ := h
 · refine ⟨by simp; omega, .inr ⟨rfl, ?_⟩⟩
   rw [h4, List.drop_eq_nil_of_le (by simp), splitGo]
 · omega
theorem upto_f {s : ByteArray} {by' : UInt8} {k f : Nat} {D : List (List UInt8)} (h : Upto s by' k f D) (hk : k ≤ s.size) : f ≤ k := by
 obtain ⟨_, ⟨_, h3, _⟩ | ⟨h2, _⟩⟩ := h
 · exact h3
 · omega
set_option maxHeartbeats 3200000 in
theorem l1Split (s : ByteArray) (c : UInt8) (w : World) (hs : s.size ≤ 1099511627776) : Calls Tryz.prog 33 #[.string s, .int .u8 (c.toNat : Int)] w fun e w' =>
   ∃ ao cap, e = .returned (.slice ao (split c s.data.toList).length cap) ∧ OwnS w.heap.size w' ao cap (split c s.data.toList) ∧ Below w.heap.size w w' := by
 obtain ⟨i0, hi, hz0, hz1, hz2⟩ := info_parts infoS
 go_enter Tryz.func33, Tryz.ntmps33
 go_wp2
 go_loopw [5, 6, 7] (fun v fr i wr => ∃ (k f : Nat) (D : List (List UInt8)), k ≤ s.size + 1 ∧ i = .int .i64 k ∧ fr = .int .i64 f ∧ Hid (Upto s c k f D) ∧ wr.ownsRow w.heap.size 9 1 v D.length (D.map S) ∧ Below w.heap.size w wr ∧ w.heap.size ≤ wr.heap.size)
   (fun _ _ i _ => s.size + 1 - (intOf i).toNat)
 case atStart => exact ⟨0, 0, [], by omega, rfl, rfl, upto_start s c, ownS_empty w, (Below.refl _ _).alloc (Nat.le_refl _) _, by simp⟩
 case round =>
   obtain ⟨k, f, D, hk, rfl, rfl, HU, hown, hnx, hB⟩ := hrel
   have hDl := HU.out.1
   by_cases hle : k ≤ s.size
   · have hle' : (k : Int) ≤ (s.size : Int) := by omega
     have hf := upto_f HU.out hle
     have hf' : (f : Int) ≤ (k : Int) := by omega
     have HX : Hid (s.extract f k = B (sub s f k)) := sub_extract s f k hf hle
     by_cases hlt : k < s.size
     · have hlt' : ((k : Int) == (s.size : Int)) = false := by rw [beq_eq_false_iff_ne]; omega
       by_cases hc : s[k] = c
       · have HU' : Hid (Upto s c (k + 1) (k + 1) (D ++ [sub s f k])) := upto_hit s c k f D HU.out hlt hc
         have hcb : ((s[k].toNat : Int) == (c.toNat : Int)) = true := by rw [beq_iff_eq, hc]
         clear hc
         go_wp2_with (at_builtin; refine wpList_append_own _ rfl _ _ 24 rfl w.heap.size 9 i0 (.string ⟨#[]⟩) 1 16 Tryz.underlying24 hi hz0 hz1 hz2 rfl (by decide) _ _ _ rfl (hown.alloc _) ⟨wr.heap.size, 0, none⟩ 1 1 [.string (s.extract f k)] rfl rfl ?c1 ?c2 ?c3 ?c4 ?c5 ?_)
         case c1 =>
           intro j u hj
           match j, hj with
           | 0, hj => simp at hj; subst hj; simp [Addr.add]
         case c2 => intro u hu; simp at hu; subst hu; rfl
         case c3 => unfold maxLen; omega
         case c4 => omega
         case c5 => simp; omega
         intro v' w1 hown' hgrow _
         rw [HX.out] at hown'
         have R := relS_put hB hown hnx hown' hgrow
         clear hown' hgrow hown
         go_wp2
         go_roundw
         case rel => exact ⟨k + 1, k + 1, D ++ [sub s f k], by omega, by go_num, by go_num, HU', R.1, R.2.1, R.2.2⟩
         case measure => simp [intOf]; omega
       · have HU' : Hid (Upto s c (k + 1) f D) := upto_miss s c k f D HU.out hlt hc
         have hcb : ((s[k].toNat : Int) == (c.toNat : Int)) = false := by
           rw [beq_eq_false_iff_ne]; intro h; exact hc (UInt8.toNat_inj.1 (by omega))
         clear hc
         go_wp2
         go_roundw
         case rel => exact ⟨k + 1, f, D, by omega, by go_num, rfl, HU', hown, hnx, hB⟩
         case measure => simp [intOf]; omega
     · obtain rfl : k = s.size := by omega
       have HU' : Hid (Upto s c (s.size + 1) (s.size + 1) (D ++ [sub s f s.size])) := upto_end s c f D HU.out
       go_wp2_with (at_builtin; refine wpList_append_own _ rfl _ _ 24 rfl w.heap.size 9 i0 (.string ⟨#[]⟩) 1 16 Tryz.underlying24 hi hz0 hz1 hz2 rfl (by decide) _ _ _ rfl (hown.alloc _) ⟨wr.heap.size, 0, none⟩ 1 1 [.string (s.extract f s.size)] rfl rfl ?d1 ?d2 ?d3 ?d4 ?d5 ?_)
       case d1 =>
         intro j u hj
         match j, hj with
         | 0, hj => simp at hj; subst hj; simp [Addr.add]
       case d2 => intro u hu; simp at hu; subst hu; rfl
       case d3 => unfold maxLen; omega
       case d4 => omega
       case d5 => simp; omega
       intro v' w1 hown' hgrow _
       rw [HX.out] at hown'
       have R := relS_put hB hown hnx hown' hgrow
       clear hown' hgrow hown
       go_wp2
       go_roundw
       case rel => exact ⟨s.size + 1, s.size + 1, D ++ [sub s f s.size], by omega, by go_num, by go_num, HU', R.1, R.2.1, R.2.2⟩
       case measure => simp [intOf]
   · have hle' : ¬ (k : Int) ≤ (s.size : Int) := by omega
     have hD : D = split c s.data.toList := by
       obtain ⟨_, ⟨h2, _⟩ | ⟨_, h⟩⟩ := HU.out
       · omega
       · exact h
     rw [hD] at hown
     obtain ⟨ao, cap, hv, ho⟩ := ownS_shape hown
     have HV : Hid (u5 = .slice ao (split c s.data.toList).length cap) := hv
     clear hv hown hD
     go_wp2
     go_ret
     exact ⟨ao, cap, by rw [← HV.out]; rfl, ho, hnx⟩
end Kn
end Go.Proofs.YtadbafppodhfpaaGreatDoor
namespace Go.Proofs.YtadbafppodhfpaaGreatDoor
open Go.RowKit
set_option maxRecDepth 100000
namespace Kn
def val (l : List UInt8) : Nat := l.foldl (fun a c => a * 10 + (c.toNat - 48)) 0
theorem val_snoc (l : List UInt8) (c : UInt8) : val (l ++ [c]) = val l * 10 + (c.toNat - 48) := by simp [val]
theorem dig_nat (n : Nat) : (dig n).toNat = 48 + n % 10 := by
 unfold dig
 rw [UInt8.toNat_ofNat']
 omega
theorem dec_ind (P : Nat → Prop) (h1 : ∀ n, n < 10 → P n) (h2 : ∀ n, 10 ≤ n → n < 100000000000 → P (n / 10) → P n) : ∀ n, n < 100000000000 → P n := by
 intro n
 induction n using Nat.strongRecOn with
 | ind n ih =>
   intro hn
   by_cases h : n < 10
   · exact h1 n h
   · exact h2 n (by omega) hn (ih (n / 10) (by omega) (by omega))
theorem dec_ne (n : Nat) (hn : n < 100000000000) : dec n ≠ [] := by
 by_cases h : n < 10
 · rw [dec_small n h]; simp
 · rw [dec_big n (by omega) hn]; simp
theorem dec_digits : ∀ n, n < 100000000000 → ∀ c ∈ dec n, 48 ≤ c.toNat ∧ c.toNat ≤ 57 := by
 apply dec_ind
 · intro n h c hc
   rw [dec_small n h] at hc
   simp at hc; subst hc
   rw [dig_nat]; omega
 · intro n h10 hn ih c hc
   rw [dec_big n h10 hn, List.mem_append] at hc
   rcases hc with hc | hc
   · exact ih c hc
   · simp at hc; subst hc; rw [dig_nat]; omega
theorem val_dec : ∀ n, n < 100000000000 → val (dec n) = n := by
 apply dec_ind
 · intro n h
   rw [dec_small n h]
   simp [val, dig_nat]; omega
 · intro n h10 hn ih
   rw [dec_big n h10 hn, val_snoc, ih, dig_nat]; omega
theorem dec_head : ∀ n, n < 100000000000 → ∀ c r, dec n = c :: r → r ≠ [] → c.toNat ≠ 48 := by
 apply dec_ind
 · intro n h c r e hr
   rw [dec_small n h] at e
   simp at e; exact absurd e.2.symm (fun h => hr h.symm)
 · intro n h10 hn ih c r e hr
   rw [dec_big n h10 hn] at e
   cases hd : dec (n / 10) with
   | nil => exact absurd hd (dec_ne (n / 10) (by omega))
   | cons c' r' =>
     rw [hd] at e
     simp only [List.cons_append, List.cons.injEq] at e
     obtain ⟨rfl, e⟩ := e
     by_cases hr' : r' = []
     · subst hr'
       have h1 : n / 10 < 10 := by
         apply Classical.byContradiction; intro h
         rw [dec_big (n / 10) (by omega) (by omega)] at hd
         cases h2 : dec (n / 10 / 10) with
         | nil => exact absurd h2 (dec_ne _ (by omega))
         | cons a b => rw [h2] at hd; simp at hd
       rw [dec_small _ h1] at hd
       simp at hd
       rw [← hd, dig_nat]; omega
     · exact ih c' r' hd hr'
theorem dec_length (k n : Nat) (h : n < 10 ^ (k + 1)) (h2 : n < 100000000000) : (dec n).length ≤ k + 1 := by
 induction k generalizing n with
 | zero => rw [dec_small n (by simpa using h)]; simp
 | succ k ih =>
   by_cases h10 : n < 10
   · rw [dec_small n h10]; simp
   · rw [dec_big n (by omega) h2]
     have := ih (n / 10) (by rw [Nat.pow_succ] at h; omega) (by omega)
     simp; omega
theorem B_data (s : ByteArray) : B s.data.toList = s := by simp [B]
theorem B_of (s : ByteArray) (l : List UInt8) (h : s = B l) : s.data.toList = l := by rw [h]; simp [B]
def Reads (s : ByteArray) (n : Int) (b : Bool) : Prop := -1000000000 < n ∧ n < 1000000000 ∧ ∀ m : Nat, m < 1000000000 → s = B (dec m) → n = (m : Int) ∧ b = true
theorem reads_no {s : ByteArray} {n : Int} {b : Bool} (h0 : -1000000000 < n) (h1 : n < 1000000000) (h : ∀ m : Nat, m < 1000000000 → s ≠ B (dec m)) : Reads s n b :=
 ⟨h0, h1, fun m hm e => absurd e (h m hm)⟩
theorem no_empty (s : ByteArray) (h : s.size = 0) (m : Nat) (hm : m < 1000000000) : s ≠ B (dec m) := by
 intro e
 have := B_of s _ e
 have h2 := dec_ne m (by omega)
 apply h2
 rw [← this]
 exact List.length_eq_zero_iff.1 (by simpa using h)
theorem get_mem (s : ByteArray) (k : Nat) (hk : k < s.size) : s[k] ∈ s.data.toList := by
 have hk2 : k < s.data.toList.length := by simpa using hk
 have e : s[k] = s.data.toList[k] := rfl
 rw [e]; exact List.getElem_mem hk2
theorem no_sign (s : ByteArray) (k : Nat) (hk : k < s.size) (h : s[k].toNat < 48 ∨ 57 < s[k].toNat) (m : Nat) (hm : m < 1000000000) : s ≠ B (dec m) := by
 intro e
 have hmem := get_mem s k hk
 rw [B_of s _ e] at hmem
 have := dec_digits m (by omega) _ hmem
 omega
theorem no_long (s : ByteArray) (h : 9 < s.size) (m : Nat) (hm : m < 1000000000) : s ≠ B (dec m) := by
 intro e
 have hl := dec_length 8 m (by simpa using hm) (by omega)
 rw [e, B_size] at h
 omega
theorem no_nought (s : ByteArray) (h : 1 < s.size) (h0 : s[0].toNat = 48) (m : Nat) (hm : m < 1000000000) : s ≠ B (dec m) := by
 intro e
 have hd := B_of s _ e
 have hs : (dec m).length = s.size := by rw [← hd]; simp
 cases hc : dec m with
 | nil => exact absurd hc (dec_ne m (by omega))
 | cons c r =>
   have hr : r ≠ [] := by
     intro h2; rw [hc, h2] at hs; simp at hs; omega
   have := dec_head m (by omega) c r hc hr
   apply this
   have e0 : s[0] = s.data.toList[0]'(by simp; omega) := rfl
   have e1 : s.data.toList[0]'(by simp; omega) = c := by
     have : s.data.toList[0]? = some c := by rw [hd, hc]; rfl
     rw [List.getElem?_eq_getElem (by simp; omega)] at this
     exact Option.some.inj this
   rw [← e1, ← e0]; exact h0
def To (s : ByteArray) (k : Nat) (n : Int) : Prop := ∀ m : Nat, m < 1000000000 → s = B (dec m) → n = (val (s.data.toList.take k) : Int)
theorem to_snoc (s : ByteArray) (k : Nat) (hk : k < s.size) (n : Int) (h : To s k n) (h48 : 48 ≤ s[k].toNat) : To s (k + 1) (n * 10 + ((s[k].toNat : Int) - 48)) := by
 intro m hm e
 rw [take_snoc s k hk, val_snoc, h m hm e]
 omega
theorem to_end (s : ByteArray) (n : Int) (h : To s s.size n) (h0 : -1000000000 < n) (h1 : n < 1000000000) : Reads s n true := by
 refine ⟨h0, h1, fun m hm e => ⟨?_, rfl⟩⟩
 rw [h m hm e, take_all, B_of s _ e, val_dec m (by omega)]
def ReadPost (s : ByteArray) (w : World) (e : Ending) (w' : World) : Prop := ∃ n b, e = .returned (.tuple #[.int .i64 n, .bool b]) ∧ Reads s n b ∧ w = w'
theorem readPost_mk {s : ByteArray} {w : World} {e : Ending} (n : Int) (b : Bool) (he : e = .returned (.tuple #[.int .i64 n, .bool b])) (h : Reads s n b) : ReadPost s w e w := ⟨n, b, he, h, rfl⟩
theorem pow9 (k : Nat) (hk : k ≤ 9) : (10 : Int) ^ k ≤ 1000000000 := by
 have h2 : 10 ^ k ≤ 10 ^ 9 := Nat.pow_le_pow_right (by decide) hk
 have e : (10 : Int) ^ k = ((10 ^ k : Nat) : Int) := by simp
 rw [e]; omega
set_option maxHeartbeats 3200000 in
theorem readPos (s : ByteArray) (w : World) (hs : 0 < s.size) (hs2 : s.size ≤ 1099511627776) (h45 : s[0].toNat ≠ 45) : Calls Tryz.prog 34 #[.string s] w (ReadPost s w) := by
 have he : s.toList.isEmpty = false := isN s (by omega)
 have hb45 : ((s[0].toNat : Int) == 45) = false := by
   rw [beq_eq_false_iff_ne]; intro h; exact h45 (by omega)
 have hp : (0 : Int) < (s.size : Int) := by omega
 have hp1 : decide ((s.size : Int) < 1) = false := by simp; omega
 by_cases h9 : 9 < s.size
 · have H9 : Hid (∀ m : Nat, m < 1000000000 → s ≠ B (dec m)) := no_long s h9
   have h9' : (9 : Int) < (s.size : Int) := by omega
   go_enter Tryz.func34, Tryz.ntmps34
   go_wp2
   go_ret2
   exact readPost_mk 0 false rfl (reads_no (by omega) (by omega) H9.out)
 · have h9' : ¬ (9 : Int) < (s.size : Int) := by omega
   go_enter Tryz.func34, Tryz.ntmps34
   go_wp2
   go_loop [6, 7] (fun v i => ∃ (k : Nat) (n : Int), k ≤ s.size ∧ i = .int .i64 k ∧ v = .int .i64 n ∧ 0 ≤ n ∧ Hid (n < 10 ^ k) ∧ Hid (To s k n)) (fun _ i => s.size - (intOf i).toNat)
   case atStart => exact ⟨0, 0, by omega, rfl, rfl, by omega, by show (0 : Int) < 10 ^ 0; decide, by intro m hm e; rfl⟩
   case round =>
     obtain ⟨k, n, hk, rfl, rfl, hn0, HP, HT⟩ := hrel
     by_cases hlt : k < s.size
     · have hnb : n < 1000000000 := by
         have h1 := HP.out
         have h2 := pow9 k (by omega)
         omega
       by_cases hd : 48 ≤ s[k].toNat ∧ s[k].toNat ≤ 57
       · obtain ⟨hd1, hd2⟩ := hd
         have HT' : Hid (To s (k + 1) (n * 10 + ((s[k].toNat : Int) - 48))) := to_snoc s k hlt n HT.out hd1
         have HP' : Hid (n * 10 + ((s[k].toNat : Int) - 48) < 10 ^ (k + 1)) := by
           show _ < _
           have h1 := HP.out
           rw [Int.pow_succ]; omega
         have hd1' : (48 : Int) ≤ (s[k].toNat : Int) := by omega
         have hd2' : (s[k].toNat : Int) ≤ 57 := by omega
         go_wp2
         go_round
         case rel => exact ⟨k + 1, _, by omega, by go_num, rfl, by omega, HP', HT'⟩
         case measure => simp [intOf]; omega
       · have HN : Hid (∀ m : Nat, m < 1000000000 → s ≠ B (dec m)) := no_sign s k hlt (by omega)
         by_cases hd1 : s[k].toNat < 48
         · have hd1' : (s[k].toNat : Int) < 48 := by omega
           go_wp2
           go_ret2
           exact readPost_mk 0 false rfl (reads_no (by omega) (by omega) HN.out)
         · have hd1' : (57 : Int) < (s[k].toNat : Int) := by omega
           go_wp2
           go_ret2
           exact readPost_mk 0 false rfl (reads_no (by omega) (by omega) HN.out)
     · obtain rfl : k = s.size := by omega
       have hnb : n < 1000000000 := by
         have h1 := HP.out
         have h2 := pow9 s.size (by omega)
         omega
       have HR : Hid (Reads s n true) := to_end s n HT.out (by omega) hnb
       by_cases h48 : s[0].toNat = 48
       · have h48' : ((s[0].toNat : Int) == 48) = true := by rw [beq_iff_eq]; omega
         by_cases h1 : 1 < s.size
         · have HN : Hid (∀ m : Nat, m < 1000000000 → s ≠ B (dec m)) := no_nought s h1 h48
           have h1' : (1 : Int) < (s.size : Int) := by omega
           clear h48 h45 hb45
           go_wp2
           go_ret2
           exact readPost_mk 0 false rfl (reads_no (by omega) (by omega) HN.out)
         · have h1' : ¬ (1 : Int) < (s.size : Int) := by omega
           clear h48 h45 hb45
           go_wp2
           go_ret2
           exact readPost_mk n true rfl (HR.out)
       · have h48' : ((s[0].toNat : Int) == 48) = false := by
           rw [beq_eq_false_iff_ne]; intro h; exact h48 (by omega)
         clear h45 hb45
         go_wp2
         go_ret2
         exact readPost_mk n true rfl (HR.out)
set_option maxHeartbeats 3200000 in
theorem readNeg (s : ByteArray) (w : World) (hs : 0 < s.size) (hs2 : s.size ≤ 1099511627776) (h45 : s[0].toNat = 45) : Calls Tryz.prog 34 #[.string s] w (ReadPost s w) := by
 have HN : Hid (∀ m : Nat, m < 1000000000 → s ≠ B (dec m)) := no_sign s 0 hs (by omega)
 have he : s.toList.isEmpty = false := isN s (by omega)
 have hb45 : ((s[0].toNat : Int) == 45) = true := by rw [beq_iff_eq]; omega
 have hp : (0 : Int) < (s.size : Int) := by omega
 clear h45
 by_cases h1 : s.size = 1
 · have h1' : (s.size : Int) - 1 < 1 := by omega
   have h1d : decide ((s.size : Int) - 1 < 1) = true := by simp; omega
   go_enter Tryz.func34, Tryz.ntmps34
   go_wp2
   go_ret2
   exact readPost_mk 0 false rfl (reads_no (by omega) (by omega) HN.out)
 · have hp1 : decide ((s.size : Int) - 1 < 1) = false := by simp; omega
   by_cases h9 : 10 < s.size
   · have h9' : (9 : Int) < (s.size : Int) - 1 := by omega
     go_enter Tryz.func34, Tryz.ntmps34
     go_wp2
     go_ret2
     exact readPost_mk 0 false rfl (reads_no (by omega) (by omega) HN.out)
   · have h9' : ¬ (9 : Int) < (s.size : Int) - 1 := by omega
     have h9d : decide ((9 : Int) < (s.size : Int) - 1) = false := by simp; omega
     go_enter Tryz.func34, Tryz.ntmps34
     go_wp2
     go_loop [6, 7] (fun v i => ∃ (k : Nat) (n : Int), k + 1 ≤ s.size ∧ i = .int .i64 ((k : Int) + 1) ∧ v = .int .i64 n ∧ 0 ≤ n ∧ Hid (n < 10 ^ k)) (fun _ i => s.size - (intOf i).toNat)
     case atStart => exact ⟨0, 0, by omega, rfl, rfl, by omega, by show (0 : Int) < 10 ^ 0; decide⟩
     case round =>
       obtain ⟨k, n, hk, rfl, rfl, hn0, HP⟩ := hrel
       have hnb : n < 1000000000 := by
         have h1 := HP.out
         have h2 := pow9 k (by omega)
         omega
       by_cases hlt : k + 1 < s.size
       · have hlt' : (k : Int) + 1 < (s.size : Int) := by omega
         have e1 : ((k : Int) + 1).toNat = k + 1 := by omega
         by_cases hd : 48 ≤ s[k + 1].toNat ∧ s[k + 1].toNat ≤ 57
         · obtain ⟨hd1, hd2⟩ := hd
           have HP' : Hid (n * 10 + ((s[k + 1].toNat : Int) - 48) < 10 ^ (k + 1)) := by
             show _ < _
             have h1 := HP.out
             rw [Int.pow_succ]; omega
           have hd1' : (48 : Int) ≤ (s[k + 1].toNat : Int) := by omega
           have hd2' : (s[k + 1].toNat : Int) ≤ 57 := by omega
           go_wp2
           go_round
           case rel => exact ⟨k + 1, _, by omega, by go_num, rfl, by omega, HP'⟩
           case measure => simp [intOf]; omega
         · by_cases hd1 : s[k + 1].toNat < 48
           · have hd1' : (s[k + 1].toNat : Int) < 48 := by omega
             go_wp2
             go_ret2
             exact readPost_mk 0 false rfl (reads_no (by omega) (by omega) HN.out)
           · have hd1' : (57 : Int) < (s[k + 1].toNat : Int) := by omega
             go_wp2
             go_ret2
             exact readPost_mk 0 false rfl (reads_no (by omega) (by omega) HN.out)
       · have hlt' : ¬ (k : Int) + 1 < (s.size : Int) := by omega
         have hs1 : (1 : Int) < (s.size : Int) := by omega
         have hs1' : 1 < s.size := by omega
         by_cases h48 : s[1].toNat = 48
         · have h48' : ((s[1].toNat : Int) == 48) = true := by rw [beq_iff_eq]; omega
           clear h48
           go_wp2
           go_ret2
           exact readPost_mk 0 false rfl (reads_no (by omega) (by omega) HN.out)
         · have h48' : ((s[1].toNat : Int) == 48) = false := by
             rw [beq_eq_false_iff_ne]; intro h; exact h48 (by omega)
           clear h48
           go_wp2
           go_ret2
           exact readPost_mk (-n) true rfl (reads_no (by omega) (by omega) HN.out)
set_option maxHeartbeats 800000 in
theorem l1Read (s : ByteArray) (w : World) (hs2 : s.size ≤ 1099511627776) : Calls Tryz.prog 34 #[.string s] w (ReadPost s w) := by
 by_cases h0 : s.size = 0
 · have he : s.toList.isEmpty = true := isE s h0
   have HN : Hid (∀ m : Nat, m < 1000000000 → s ≠ B (dec m)) := no_empty s h0
   have h0' : (s.size : Int) = 0 := by omega
   go_enter Tryz.func34, Tryz.ntmps34
   go_wp2
   go_ret2
   exact readPost_mk 0 false rfl (reads_no (by omega) (by omega) HN.out)
 · by_cases h45 : (s[0]'(by omega)).toNat = 45
   · exact readNeg s w (by omega) hs2 h45
   · exact readPos s w (by omega) hs2 h45
end Kn
end Go.Proofs.YtadbafppodhfpaaGreatDoor
namespace Go.Proofs.YtadbafppodhfpaaGreatDoor
open Go.RowKit
set_option maxRecDepth 100000
namespace De
open Kn (dec B split splitGo)
def joinW : List (List UInt8) → List UInt8
 | [] => []
 | [a] => a
 | a :: b :: r => a ++ 32 :: joinW (b :: r)
theorem join_snoc (x : List UInt8) : ∀ l : List (List UInt8), joinW (l ++ [x]) = if l = [] then x else joinW l ++ 32 :: x := by
 intro l
 induction l with
 | nil => rfl
 | cons a l ih =>
   cases l with
   | nil => rfl
   | cons b r =>
     rw [if_neg (by simp)]
     show a ++ 32 :: joinW (b :: r ++ [x]) = (a ++ 32 :: joinW (b :: r)) ++ 32 :: x
     rw [ih, if_neg (by simp)]
     simp
theorem splitGo_last (x cur : List UInt8) (h : (32 : UInt8) ∉ x) : splitGo 32 cur x = [cur ++ x] := by
 induction x generalizing cur with
 | nil => simp [splitGo]
 | cons c r ih =>
   rw [splitGo, if_neg (by intro e; exact h (by rw [e]; simp)), ih _ (fun hm => h (by simp [hm]))]
   simp
theorem splitGo_word (x cur r : List UInt8) (h : (32 : UInt8) ∉ x) : splitGo 32 cur (x ++ 32 :: r) = (cur ++ x) :: splitGo 32 [] r := by
 induction x generalizing cur with
 | nil => simp [splitGo]
 | cons c x ih =>
   show splitGo 32 cur (c :: (x ++ 32 :: r)) = _
   rw [splitGo, if_neg (by intro e; exact h (by rw [e]; simp)), ih _ (fun hm => h (by simp [hm]))]
   simp
theorem split_join : ∀ W : List (List UInt8), W ≠ [] → (∀ x ∈ W, (32 : UInt8) ∉ x) → split 32 (joinW W) = W := by
 intro W
 induction W with
 | nil => intro h; exact absurd rfl h
 | cons a W ih =>
   intro _ h
   cases W with
   | nil => unfold Kn.split joinW; rw [splitGo_last a [] (h a (by simp))]; simp
   | cons b r =>
     unfold Kn.split
     show splitGo 32 [] (a ++ 32 :: joinW (b :: r)) = _
     rw [splitGo_word a [] _ (h a (by simp))]
     have := ih (by simp) (fun x hx => h x (by simp at hx ⊢; rcases hx with e | e <;> simp [e]))
     unfold Kn.split at this
     rw [this]
     simp
def kindW (k : Int) : List UInt8 := if k = 1 then [112, 117, 116] else if k = 2 then [99, 117, 116] else if k = 3 then [97, 100, 100] else [105, 102]
def wordsD (d : D) : List (List UInt8) := kindW d.kind :: d.key.data.toList :: ((if d.kind = 2 then [] else [dec d.val.toNat]) ++ (if d.kind = 4 then [dec d.new.toNat] else []))
def showD (d : D) : List UInt8 := joinW (wordsD d)
structure OkD (d : D) : Prop where
 k1 : 1 ≤ d.kind
 k4 : d.kind ≤ 4
 key : keyB d.key = true
 v0 : 0 ≤ d.val
 v1 : d.val ≤ 99
 n0 : 0 ≤ d.new
 n1 : d.new ≤ 99
 cut : d.kind = 2 → d.val = 0
 ifs : d.kind ≠ 4 → d.new = 0
theorem okD_iff (d : D) : okD d = true ↔ OkD d := by
 unfold okD
 simp only [Bool.and_eq_true, decide_eq_true_eq, Bool.or_eq_true, bne_iff_ne, ne_eq, beq_iff_eq]
 constructor
 · rintro ⟨⟨a1, a2⟩, a3, ⟨a4, a5⟩, ⟨a6, a7⟩, a8, a9⟩
   exact ⟨a1, a2, a3, a4, a5, a6, a7, fun h => by rcases a8 with q | q; exact absurd h q; exact q, fun h => by rcases a9 with q | q; exact absurd q h; exact q⟩
 · rintro ⟨a1, a2, a3, a4, a5, a6, a7, a8, a9⟩
   exact ⟨⟨a1, a2⟩, a3, ⟨a4, a5⟩, ⟨a6, a7⟩, by by_cases h : d.kind = 2; exact .inr (a8 h); exact .inl h, by by_cases h : d.kind = 4; exact .inl h; exact .inr (a9 h)⟩
theorem key_no {s : ByteArray} (h : keyB s = true) : (32 : UInt8) ∉ s.data.toList := by
 unfold keyB at h
 rw [Bool.and_eq_true, List.all_eq_true] at h
 intro hm
 have := h.1 32 hm
 exact absurd this (by decide)
theorem kind_no (k : Int) : (32 : UInt8) ∉ kindW k := by
 unfold kindW
 split
 · decide
 · split
   · decide
   · split <;> decide
theorem dec_no (n : Nat) (hn : n < 100000000000) : (32 : UInt8) ∉ dec n := fun h => by
 have := Kn.dec_digits n hn 32 h
 exact absurd this.1 (by decide)
theorem words_no {d : D} (h : OkD d) : ∀ x ∈ wordsD d, (32 : UInt8) ∉ x := by
 have b1 := h.v1
 have b2 := h.n1
 intro x hx
 unfold wordsD at hx
 simp only [List.mem_cons, List.mem_append] at hx
 rcases hx with rfl | rfl | hx | hx
 · exact kind_no _
 · exact key_no h.key
 · split at hx
   · simp at hx
   · simp at hx; subst hx; exact dec_no _ (by omega)
 · split at hx
   · simp at hx; subst hx; exact dec_no _ (by omega)
   · simp at hx
theorem split_show {d : D} (h : OkD d) : split 32 (showD d) = wordsD d := split_join _ (by unfold wordsD; simp) (words_no h)
theorem kindW_inj {a b : Int} (ha : 1 ≤ a ∧ a ≤ 4) (hb : 1 ≤ b ∧ b ≤ 4) (h : kindW a = kindW b) : a = b := by
 have e1 : a = 1 ∨ a = 2 ∨ a = 3 ∨ a = 4 := by omega
 have e2 : b = 1 ∨ b = 2 ∨ b = 3 ∨ b = 4 := by omega
 rcases e1 with rfl | rfl | rfl | rfl <;> rcases e2 with rfl | rfl | rfl | rfl <;> first | rfl | exact absurd h (by decide)
theorem dec_inj (a b : Nat) (ha : a < 100000000000) (hb : b < 100000000000) (h : dec a = dec b) : a = b := by
 rw [← Kn.val_dec a ha, ← Kn.val_dec b hb, h]
theorem data_inj {a b : ByteArray} (h : a.data.toList = b.data.toList) : a = b := by
 rw [← Kn.B_data a, ← Kn.B_data b, h]
theorem words_inj {a b : D} (ha : OkD a) (hb : OkD b) (h : wordsD a = wordsD b) : a = b := by
 obtain ⟨k, s, v, n⟩ := a
 obtain ⟨k', s', v', n'⟩ := b
 unfold wordsD at h
 simp only [List.cons.injEq] at h
 obtain ⟨h1, h2, h3⟩ := h
 have hk := kindW_inj ⟨ha.k1, ha.k4⟩ ⟨hb.k1, hb.k4⟩ h1
 have hs := data_inj h2
 have av := ha.v0; have av1 := ha.v1; have an := ha.n0; have an1 := ha.n1
 have bv := hb.v0; have bv1 := hb.v1; have bn := hb.n0; have bn1 := hb.n1
 have ac := ha.cut; have ai := ha.ifs; have bc := hb.cut; have bi := hb.ifs
 simp only at hk hs av av1 an an1 bv bv1 bn bn1 ac ai bc bi h3
 subst hk hs
 have dv : dec v.toNat = dec v'.toNat → v = v' := fun e => by have := dec_inj _ _ (by omega) (by omega) e; omega
 have dn : dec n.toNat = dec n'.toNat → n = n' := fun e => by have := dec_inj _ _ (by omega) (by omega) e; omega
 by_cases h2k : k = 2
 · have e1 := ac h2k
   have e2 := bc h2k
   have e3 := ai (by omega)
   have e4 := bi (by omega)
   subst e1 e2 e3 e4
   rfl
 · by_cases h4k : k = 4
   · rw [if_neg h2k, if_pos h4k, if_neg h2k, if_pos h4k] at h3
     simp only [List.cons_append, List.nil_append, List.cons.injEq, and_true] at h3
     rw [dv h3.1, dn h3.2]
   · have e3 := ai h4k
     have e4 := bi h4k
     rw [if_neg h2k, if_neg h4k, if_neg h2k, if_neg h4k] at h3
     simp only [List.append_nil, List.cons.injEq, and_true] at h3
     rw [dv h3, e3, e4]
theorem showD_inj {a b : D} (ha : okD a = true) (hb : okD b = true) (h : showD a = showD b) : a = b := by
 have ha := (okD_iff a).1 ha
 have hb := (okD_iff b).1 hb
 refine words_inj ha hb ?_
 rw [← split_show ha, ← split_show hb, h]
end De
end Go.Proofs.YtadbafppodhfpaaGreatDoor
namespace Go.Proofs.YtadbafppodhfpaaGreatDoor
open Go.RowKit
set_option maxRecDepth 100000
set_option linter.unusedVariables false
namespace De
open Kn (dec B split)
theorem join_len (m : Nat) : ∀ l : List (List UInt8), (∀ x ∈ l, x.length ≤ m) → (joinW l).length ≤ l.length * (m + 1) := by
 intro l
 induction l with
 | nil => intro _; exact Nat.zero_le _
 | cons a l ih =>
   intro h
   have h1 := h a (by simp)
   have h2 := ih (fun x hx => h x (by simp [hx]))
   have e : (l.length + 1) * (m + 1) = l.length * (m + 1) + (m + 1) := Nat.succ_mul _ _
   cases l with
   | nil => show a.length ≤ _; simp; omega
   | cons b r =>
     show (a ++ 32 :: joinW (b :: r)).length ≤ ((b :: r).length + 1) * (m + 1)
     rw [List.length_append, List.length_cons, e]; omega
theorem take_snocW (W : List (List UInt8)) (k : Nat) (h : k < W.length) : W.take (k + 1) = W.take k ++ [W.getD k []] := by
 rw [List.take_add_one, List.getElem?_eq_getElem h]; simp [List.getD, h]
set_option maxHeartbeats 1600000 in
theorem l1Words (g cap : Nat) (W : List (List UInt8)) (w : World) (hn : W.length ≤ 1000) (hl : ∀ x ∈ W, x.length ≤ 1000) (hc : ∀ j, j < W.length → w.cell? ⟨g, j, none⟩ = some (.string (B (W.getD j [])))) :
   Calls Tryz.prog 50 #[.slice (some ⟨g, 0, none⟩) W.length cap] w fun e w' => e = .returned (.string (B (joinW W))) ∧ w = w' := by
 have HL : Hid (∀ k, (B (joinW (W.take k))).size ≤ 1001000) := fun k => by
   rw [Kn.B_size]
   have h1 := join_len 1000 (W.take k) (fun x hx => hl x (List.mem_of_mem_take hx))
   have h2 : (W.take k).length ≤ W.length := by simp; omega
   have h3 : (W.take k).length * (1000 + 1) ≤ 1000 * (1000 + 1) := Nat.mul_le_mul_right _ (by omega)
   omega
 have HX : Hid (∀ k, k < W.length → (B (W.getD k [])).size ≤ 1000) := fun k hk => by
   rw [Kn.B_size]; exact hl _ (by simp [List.getD, hk])
 have HS : Hid (∀ k, k < W.length → joinW (W.take (k + 1)) = if W.take k = [] then W.getD k [] else joinW (W.take k) ++ 32 :: W.getD k []) := fun k hk => by
   rw [take_snocW W k hk, join_snoc]
 have HC : Hid (∀ j, j < W.length → w.cell? ⟨g, j, none⟩ = some (.string (B (W.getD j [])))) := hc
 clear hl hc
 go_enter Tryz.func50, Tryz.ntmps50
 go_wp2
 go_loop [3, 4] (fun sv i => ∃ k : Nat, k ≤ W.length ∧ i = .int .i64 k ∧ sv = .string (B (joinW (W.take k)))) (fun _ i => W.length - (intOf i).toNat)
 case atStart => exact ⟨0, by omega, rfl, rfl⟩
 case round =>
   obtain ⟨k, hk, rfl, rfl⟩ := hrel
   by_cases hlt : k < W.length
   · have hlti : (k : Int) < (W.length : Int) := by omega
     have z1 := HL.out k
     have z2 := HX.out k hlt
     have ck := HC.out k hlt
     have hs := HS.out k hlt
     by_cases h0 : k = 0
     · subst h0
       have HE : Hid (joinW (W.take (0 + 1)) = W.getD 0 []) := by show _ = _; rw [hs]; simp
       have z0 : (B (joinW (W.take 0))).size = 0 := by rw [Kn.B_size]; rfl
       have HB : Hid (B (joinW (W.take 0)) ++ B (W.getD 0 []) = B (W.getD 0 [])) := by show _ = _; rw [Kn.B_app]; simp [joinW]
       clear hs
       generalize B (joinW (W.take 0)) = a at z0 z1 HB ⊢
       generalize W.getD 0 [] = x at z2 ck HE HB
       go_wp2
       go_round
       case rel => exact ⟨0 + 1, by omega, by go_num, by rw [HB.out, HE.out]⟩
       case measure => simp [intOf]; omega
     · have hk0 : (0 : Int) < (k : Int) := by omega
       have HE : Hid (joinW (W.take (k + 1)) = joinW (W.take k) ++ 32 :: W.getD k []) := by
         show _ = _
         rw [hs, if_neg]
         intro e
         rcases List.take_eq_nil_iff.1 e with q | q
         · exact h0 q
         · rw [q] at hlt; simp at hlt
       have HB : Hid (B (joinW (W.take k)) ++ { data := #[32] } ++ B (W.getD k []) = B (joinW (W.take k) ++ 32 :: W.getD k [])) := by
         show _ = _
         rw [show ({ data := #[32] } : ByteArray) = B [32] from rfl, Kn.B_app, Kn.B_app]; simp
       clear hs
       generalize joinW (W.take k) = a at z1 HE HB ⊢
       generalize W.getD k [] = x at z2 ck HE HB
       go_wp2
       go_round
       case rel => exact ⟨k + 1, by omega, by go_num, by rw [HB.out, HE.out]⟩
       case measure => simp [intOf]; omega
   · obtain rfl : k = W.length := by omega
     go_wp2
     go_ret
     exact ⟨rfl, rfl⟩
theorem box4 (w : World) (a b c d : Value) (t : TypeId) : Below w.heap.size w (w.alloc (.cells #[a, b, c, d] t)) ∧ (w.alloc (.cells #[a, b, c, d] t)).cell? ⟨w.heap.size, 0, none⟩ = some a ∧ (w.alloc (.cells #[a, b, c, d] t)).cell? ⟨w.heap.size, 1, none⟩ = some b ∧ (w.alloc (.cells #[a, b, c, d] t)).cell? ⟨w.heap.size, 2, none⟩ = some c ∧ (w.alloc (.cells #[a, b, c, d] t)).cell? ⟨w.heap.size, 3, none⟩ = some d ∧ w.heap.size < (w.alloc (.cells #[a, b, c, d] t)).heap.size :=
 ⟨(Below.refl _ _).alloc (Nat.le_refl _) _, by simp, by simp, by simp, by simp, by simp⟩
theorem rowS_below {base : Nat} {w w' : World} {v : Value} {n : Nat} {xs : List Value} (h : w.ownsRow base 9 1 v n xs) (hb : Below w.heap.size w w') : w'.ownsRow base 9 1 v n xs := by
 have hlt := World.ownsRow.lt h
 obtain ⟨h1, h2⟩ := h
 refine ⟨h1, ?_⟩
 rcases h2 with h2 | ⟨g, cap, cur, rfl, hB, hg, rest⟩
 · exact .inl h2
 · exact .inr ⟨g, cap, cur, rfl, hB, (hb.block g (hlt g rfl).2).trans hg, rest⟩
theorem rowS_at {base : Nat} {w : World} {v : Value} {L : List (List UInt8)} (hL : L ≠ []) (h : w.ownsRow base 9 1 v L.length (L.map Kn.S)) : ∃ g cap, v = .slice (some ⟨g, 0, none⟩) L.length cap ∧ ∀ j, j < L.length → w.cell? ⟨g, j, none⟩ = some (.string (B (L.getD j []))) := by
 have h' := h
 obtain ⟨_, ⟨hv, hn⟩ | ⟨g, cap, cur, hv, _⟩⟩ := h'
 · exact absurd (List.length_eq_zero_iff.1 hn) hL
 · refine ⟨g, cap, hv, fun j hj => ?_⟩
   subst hv
   rw [World.ownsRow.cellAt h j (by omega)]
   simp [List.getD, hj, Kn.S]
theorem lit2 (W0 : World) (a4 : Array Value) (s : List UInt8) (key : ByteArray) : (((W0.alloc (.cells a4 9)).alloc (.cells #[.string (B s), .string key] 9)).drew).ownsRow W0.heap.size 9 1 (.slice (some ⟨W0.heap.size + 1, 0, none⟩) 2 2) [s, key.data.toList].length ([s, key.data.toList].map Kn.S) ∧ Below W0.heap.size W0 (((W0.alloc (.cells a4 9)).alloc (.cells #[.string (B s), .string key] 9)).drew) := by
 refine ⟨⟨rfl, .inr ⟨W0.heap.size + 1, 2, #[.string (B s), .string key], rfl, by omega, ?_, by simp, by unfold maxLen; omega, rfl, ?_⟩⟩, (((Below.refl _ _).alloc (Nat.le_refl _) _).alloc (by simp) _).drew⟩
 · have e : (W0.alloc (.cells a4 9)).heap.size = W0.heap.size + 1 := by simp
   show ((W0.alloc (.cells a4 9)).heap.push _)[W0.heap.size + 1]? = _
   rw [← e, Array.getElem?_push_size]
 · simp [Kn.S, Kn.B_data]
theorem next_row {W0 V0 X1 V1 : World} {v v1 : Value} {o : Obj} {l : List (List UInt8)} {x : List UInt8} {k : Nat} (hk : l.length = k) (hO : V0.ownsRow W0.heap.size 9 1 v k (l.map Kn.S)) (hB : Below W0.heap.size W0 V0) (hb : Below V0.heap.size V0 X1) (hX : X1.ownsRow W0.heap.size 9 1 v k (l.map Kn.S))
   (h1 : V1.ownsRow W0.heap.size 9 1 v1 (k + 1) (l.map Kn.S ++ [.string (B x)])) (hg : (X1.alloc o).grownBy V1 v.ownBlock) : V1.ownsRow W0.heap.size 9 1 v1 (l ++ [x]).length ((l ++ [x]).map Kn.S) ∧ Below W0.heap.size W0 V1 := by
 subst hk
 have hBX : Below W0.heap.size W0 X1 := hB.trans (hb.mono hB.size)
 have := Kn.relS_put (w := W0) hBX.size hX hBX h1 hg
 exact ⟨this.1, this.2.1⟩
theorem old_cell {W0 V0 X1 V1 : World} {v u : Value} {o : Obj} {n b j : Nat} {xs : List Value} (hl : b < V0.heap.size) (hbl : b < W0.heap.size) (hO : V0.ownsRow W0.heap.size 9 1 v n xs) (hb : Below V0.heap.size V0 X1) (hg : (X1.alloc o).grownBy V1 v.ownBlock) (h : V0.cell? ⟨b, j, none⟩ = some u) : V1.cell? ⟨b, j, none⟩ = some u := by
 have hX : X1.cell? ⟨b, j, none⟩ = some u := (hb.cell (p := ⟨b, j, none⟩) hl).trans h
 have hlX : b < X1.heap.size := Nat.lt_of_lt_of_le hl hb.size
 have hA : (X1.alloc o).cell? ⟨b, j, none⟩ = some u := (World.cell?_alloc_lt _ _ _ hlX).trans hX
 refine World.grownBy.cell hg hA ?_
 intro e
 have := (World.ownsRow.lt hO b e.symm).1
 omega
def l1IntAt (n : Nat) : Prop := ∀ W : World, Calls Tryz.prog 49 #[.int .i64 (n : Int)] W fun e w' => e = .returned (.string (B (dec n))) ∧ Below W.heap.size W w'
theorem key_len {s : ByteArray} (h : keyB s = true) : s.data.toList.length ≤ 1000 := by
 unfold keyB at h
 simp only [Bool.and_eq_true, decide_eq_true_eq] at h
 have h2 := h.2.2
 have : s.data.toList.length = s.size := by simp
 omega
theorem decF_len (f n : Nat) : (Kn.decF f n).length ≤ f := by
 induction f generalizing n with
 | zero => simp [Kn.decF]
 | succ f ih =>
   rw [Kn.decF]
   split
   · simp
   · have := ih (n / 10); simp; omega
theorem dec_len (n : Nat) : (dec n).length ≤ 1000 := Nat.le_trans (decF_len 12 n) (by omega)
set_option maxHeartbeats 3200000 in
theorem l16Show2 (key : ByteArray) (v n : Nat) (w : World) (hkey : keyB key = true) (hv : v ≤ 99) (hn : n ≤ 99) :
   Calls Tryz.prog 36 #[.agg #[.int .i64 2, .string key, .int .i64 (v : Int), .int .i64 (n : Int)]] w fun e w' => e = .returned (.string (B (joinW [[99, 117, 116], key.data.toList]))) ∧ Below w.heap.size w w' := by
 obtain ⟨i0, hi, hz0, hz1, hz2⟩ := info_parts Kn.infoS
 have P0 : Hid (_) := box4 w (.int .i64 2) (.string key) (.int .i64 (v : Int)) (.int .i64 (n : Int)) 34
 have HKL : Hid (key.data.toList.length ≤ 1000) := key_len hkey
 have HV : Hid (l1IntAt v) := fun W => Kn.l1Int v W (by omega)
 have HN : Hid (l1IntAt n) := fun W => Kn.l1Int n W (by omega)
 clear hkey
 go_enter Tryz.func36, Tryz.ntmps36
 go_upto_region 1 with fail
 generalize w.alloc (.cells #[.int .i64 2, .string key, .int .i64 (v : Int), .int .i64 (n : Int)] 34) = W0 at P0 ⊢
 obtain ⟨B0, x0, x1, x2, x3, hl⟩ := P0
 generalize hbb : w.heap.size = b at B0 x0 x1 x2 x3 hl ⊢
 have HBB : Hid (w.heap.size = b) := hbb
 clear hbb
 have HP : Hid (_) := lit2 W0 #[.string { data := #[112, 117, 116] }, .string { data := #[99, 117, 116] }, .string { data := #[97, 100, 100] }, .string { data := #[105, 102] }] [99, 117, 116] key
 rw [show B [99, 117, 116] = { data := #[99, 117, 116] } from rfl] at HP
 go_region
 generalize ((W0.alloc (.cells #[.string { data := #[112, 117, 116] }, .string { data := #[99, 117, 116] }, .string { data := #[97, 100, 100] }, .string { data := #[105, 102] }] 9)).alloc (.cells #[.string { data := #[99, 117, 116] }, .string key] 9)).drew = V0 at HP ⊢
 obtain ⟨hO, hB⟩ := HP.out
 have y0 := (hB.cell (p := ⟨b, 0, none⟩) hl).trans x0
 have y2 := (hB.cell (p := ⟨b, 2, none⟩) hl).trans x2
 have y3 := (hB.cell (p := ⟨b, 3, none⟩) hl).trans x3
 have hlV : b < V0.heap.size := Nat.lt_of_lt_of_le hl hB.size
 have hB0 : Below W0.heap.size W0 V0 := hB
 have HLO : Hid (∀ V : World, Below W0.heap.size W0 V → Below b w V) := fun V hV => B0.trans (hV.mono (Nat.le_of_lt hl))
 have hbl : b < W0.heap.size := hl
 clear x0 x1 x2 x3 HP hB B0
 generalize W0.heap.size + 1 = q0 at hO ⊢
 generalize hw2 : [[99, 117, 116], key.data.toList] = WD at hO
 have hwl : WD.length = 2 := by rw [← hw2]; rfl
 have HWD : Hid (WD = [[99, 117, 116], key.data.toList]) := hw2.symm
 have HWL : Hid (∀ x ∈ WD, x.length ≤ 1000) := fun x hx => by
   rw [HWD.out] at hx
   simp only [List.mem_cons, List.not_mem_nil, or_false] at hx
   rcases hx with rfl | rfl
   · simp
   · exact HKL.out
 clear hw2
 rw [hwl] at hO
 rw [← hwl] at hO
 obtain ⟨g, cp, hev, hcl⟩ := rowS_at (by intro e; rw [e] at hwl; simp at hwl) hO
 rw [hwl] at hev
 injection hev with e1 _ e3
 injection e1 with e1
 injection e1 with e1
 subst e1 e3
 have hcall := l1Words q0 2 WD _ (by omega) HWL.out hcl
 rw [hwl, HWD.out] at hcall
 clear hcl hO y2 y3 HWL
 generalize hjw : joinW [[99, 117, 116], key.data.toList] = jw at hcall
 have HJW : Hid (joinW [[99, 117, 116], key.data.toList] = jw) := hjw
 have HFIN : Hid (_) := HLO.out _ hB0
 clear hjw
 go_wp2_with fail
 refine hcall.mono ?_
 rintro e w' ⟨rfl, rfl⟩
 clear hcall
 go_wp2
 go_ret
 refine ⟨by rw [HJW.out]; rfl, ?_⟩
 rw [HBB.out]
 exact HFIN.out
set_option maxHeartbeats 3200000 in
theorem l16Show1 (key : ByteArray) (v n : Nat) (w : World) (hkey : keyB key = true) (hv : v ≤ 99) (hn : n ≤ 99) :
   Calls Tryz.prog 36 #[.agg #[.int .i64 1, .string key, .int .i64 (v : Int), .int .i64 (n : Int)]] w fun e w' => e = .returned (.string (B (joinW [[112, 117, 116], key.data.toList, dec v]))) ∧ Below w.heap.size w w' := by
 obtain ⟨i0, hi, hz0, hz1, hz2⟩ := info_parts Kn.infoS
 have P0 : Hid (_) := box4 w (.int .i64 1) (.string key) (.int .i64 (v : Int)) (.int .i64 (n : Int)) 34
 have HKL : Hid (key.data.toList.length ≤ 1000) := key_len hkey
 have HV : Hid (l1IntAt v) := fun W => Kn.l1Int v W (by omega)
 have HN : Hid (l1IntAt n) := fun W => Kn.l1Int n W (by omega)
 clear hkey
 go_enter Tryz.func36, Tryz.ntmps36
 go_upto_region 1 with fail
 generalize w.alloc (.cells #[.int .i64 1, .string key, .int .i64 (v : Int), .int .i64 (n : Int)] 34) = W0 at P0 ⊢
 obtain ⟨B0, x0, x1, x2, x3, hl⟩ := P0
 generalize hbb : w.heap.size = b at B0 x0 x1 x2 x3 hl ⊢
 have HBB : Hid (w.heap.size = b) := hbb
 clear hbb
 have HP : Hid (_) := lit2 W0 #[.string { data := #[112, 117, 116] }, .string { data := #[99, 117, 116] }, .string { data := #[97, 100, 100] }, .string { data := #[105, 102] }] [112, 117, 116] key
 rw [show B [112, 117, 116] = { data := #[112, 117, 116] } from rfl] at HP
 go_region
 generalize ((W0.alloc (.cells #[.string { data := #[112, 117, 116] }, .string { data := #[99, 117, 116] }, .string { data := #[97, 100, 100] }, .string { data := #[105, 102] }] 9)).alloc (.cells #[.string { data := #[112, 117, 116] }, .string key] 9)).drew = V0 at HP ⊢
 obtain ⟨hO, hB⟩ := HP.out
 have y0 := (hB.cell (p := ⟨b, 0, none⟩) hl).trans x0
 have y2 := (hB.cell (p := ⟨b, 2, none⟩) hl).trans x2
 have y3 := (hB.cell (p := ⟨b, 3, none⟩) hl).trans x3
 have hlV : b < V0.heap.size := Nat.lt_of_lt_of_le hl hB.size
 have hB0 : Below W0.heap.size W0 V0 := hB
 have HLO : Hid (∀ V : World, Below W0.heap.size W0 V → Below b w V) := fun V hV => B0.trans (hV.mono (Nat.le_of_lt hl))
 have hbl : b < W0.heap.size := hl
 clear x0 x1 x2 x3 HP hB B0
 generalize W0.heap.size + 1 = q0 at hO ⊢
 generalize hw2 : [[112, 117, 116], key.data.toList] = WD at hO
 have hwl : WD.length = 2 := by rw [← hw2]; rfl
 have HWD : Hid (WD = [[112, 117, 116], key.data.toList]) := hw2.symm
 have HWL : Hid (∀ x ∈ WD, x.length ≤ 1000) := fun x hx => by
   rw [HWD.out] at hx
   simp only [List.mem_cons, List.not_mem_nil, or_false] at hx
   rcases hx with rfl | rfl
   · simp
   · exact HKL.out
 clear hw2
 rw [hwl] at hO
 go_wp2_with (first | (go_at_call 49; refine (HV.out _).mono ?_; rintro e X1 ⟨rfl, hb1⟩; have own1 := rowS_below hO hb1) | (at_builtin; refine wpList_append_own _ rfl _ _ 24 rfl W0.heap.size 9 i0 (.string ⟨#[]⟩) 1 16 Tryz.underlying24 hi hz0 hz1 hz2 rfl (by decide) _ 2 _ (by first | rfl | simp [Act.eval]) (own1.alloc _) ⟨X1.heap.size, 0, none⟩ 1 1 [.string (B (dec v))] (by first | rfl | simp [Act.eval]) rfl ?c1 ?c2 ?c3 ?c4 ?c5 ?_))
 case c1 =>
   intro j u hj
   match j, hj with
   | 0, hj => simp at hj; subst hj; simp [Addr.add]
 case c2 => intro u hu; simp at hu; subst hu; rfl
 case c3 => unfold maxLen; simp
 case c4 => simp
 case c5 => have := hb1.size; have := hB0.size; simp; omega
 intro v1 V1 hown1 hgrow1 _
 have HR1 : Hid (_) := next_row hwl hO hB0 hb1 own1 hown1 hgrow1
 have z0 := old_cell hlV hbl hO hb1 hgrow1 y0
 have z3 := old_cell hlV hbl hO hb1 hgrow1 y3
 have hlV' : b < V1.heap.size := Nat.lt_of_lt_of_le hlV (Nat.le_trans hb1.size (by have := hgrow1.size; simp at this; omega))
 obtain ⟨hO', hB'⟩ := HR1.out
 have HWL' : Hid (∀ x ∈ WD ++ [dec v], x.length ≤ 1000) := fun x hx => by
   rcases List.mem_append.1 hx with h | h
   · exact HWL.out x h
   · simp at h; subst h; exact dec_len v
 have HWD' : Hid (WD ++ [dec v] = [[112, 117, 116], key.data.toList, dec v]) := by show _ = _; rw [HWD.out]; rfl
 have hwl' : (WD ++ [dec v]).length = 3 := by simp [hwl]
 clear hO hown1 hgrow1 own1 hb1 HR1 y0 y2 y3 hB0 hlV HWL HWD hwl HV
 rw [hwl'] at hO'
 generalize WD ++ [dec v] = WD at hO' HWL' HWD' hwl'
 rename WD.length = 3 => hwl
 rename Hid (WD = _) => HWD
 rename Hid (∀ x ∈ WD, _) => HWL
 have hO := hO'
 have hB0 := hB'
 have hlV := hlV'
 clear hO' hB' hlV'
 have y0 := z0
 have y3 := z3
 have y2 := z0
 clear z0 z3
 rw [← hwl] at hO
 obtain ⟨g, cp, hev, hcl⟩ := rowS_at (by intro e; rw [e] at hwl; simp at hwl) hO
 rw [hwl] at hev
 subst hev
 have hcall := l1Words g cp WD _ (by omega) HWL.out hcl
 rw [hwl, HWD.out] at hcall
 clear hcl hO y2 y3 HWL
 generalize hjw : joinW [[112, 117, 116], key.data.toList, dec v] = jw at hcall
 have HJW : Hid (joinW [[112, 117, 116], key.data.toList, dec v] = jw) := hjw
 have HFIN : Hid (_) := HLO.out _ hB0
 clear hjw
 go_wp2_with fail
 refine hcall.mono ?_
 rintro e w' ⟨rfl, rfl⟩
 clear hcall
 go_wp2
 go_ret
 refine ⟨by rw [HJW.out]; rfl, ?_⟩
 rw [HBB.out]
 exact HFIN.out
set_option maxHeartbeats 3200000 in
theorem l16Show3 (key : ByteArray) (v n : Nat) (w : World) (hkey : keyB key = true) (hv : v ≤ 99) (hn : n ≤ 99) :
   Calls Tryz.prog 36 #[.agg #[.int .i64 3, .string key, .int .i64 (v : Int), .int .i64 (n : Int)]] w fun e w' => e = .returned (.string (B (joinW [[97, 100, 100], key.data.toList, dec v]))) ∧ Below w.heap.size w w' := by
 obtain ⟨i0, hi, hz0, hz1, hz2⟩ := info_parts Kn.infoS
 have P0 : Hid (_) := box4 w (.int .i64 3) (.string key) (.int .i64 (v : Int)) (.int .i64 (n : Int)) 34
 have HKL : Hid (key.data.toList.length ≤ 1000) := key_len hkey
 have HV : Hid (l1IntAt v) := fun W => Kn.l1Int v W (by omega)
 have HN : Hid (l1IntAt n) := fun W => Kn.l1Int n W (by omega)
 clear hkey
 go_enter Tryz.func36, Tryz.ntmps36
 go_upto_region 1 with fail
 generalize w.alloc (.cells #[.int .i64 3, .string key, .int .i64 (v : Int), .int .i64 (n : Int)] 34) = W0 at P0 ⊢
 obtain ⟨B0, x0, x1, x2, x3, hl⟩ := P0
 generalize hbb : w.heap.size = b at B0 x0 x1 x2 x3 hl ⊢
 have HBB : Hid (w.heap.size = b) := hbb
 clear hbb
 have HP : Hid (_) := lit2 W0 #[.string { data := #[112, 117, 116] }, .string { data := #[99, 117, 116] }, .string { data := #[97, 100, 100] }, .string { data := #[105, 102] }] [97, 100, 100] key
 rw [show B [97, 100, 100] = { data := #[97, 100, 100] } from rfl] at HP
 go_region
 generalize ((W0.alloc (.cells #[.string { data := #[112, 117, 116] }, .string { data := #[99, 117, 116] }, .string { data := #[97, 100, 100] }, .string { data := #[105, 102] }] 9)).alloc (.cells #[.string { data := #[97, 100, 100] }, .string key] 9)).drew = V0 at HP ⊢
 obtain ⟨hO, hB⟩ := HP.out
 have y0 := (hB.cell (p := ⟨b, 0, none⟩) hl).trans x0
 have y2 := (hB.cell (p := ⟨b, 2, none⟩) hl).trans x2
 have y3 := (hB.cell (p := ⟨b, 3, none⟩) hl).trans x3
 have hlV : b < V0.heap.size := Nat.lt_of_lt_of_le hl hB.size
 have hB0 : Below W0.heap.size W0 V0 := hB
 have HLO : Hid (∀ V : World, Below W0.heap.size W0 V → Below b w V) := fun V hV => B0.trans (hV.mono (Nat.le_of_lt hl))
 have hbl : b < W0.heap.size := hl
 clear x0 x1 x2 x3 HP hB B0
 generalize W0.heap.size + 1 = q0 at hO ⊢
 generalize hw2 : [[97, 100, 100], key.data.toList] = WD at hO
 have hwl : WD.length = 2 := by rw [← hw2]; rfl
 have HWD : Hid (WD = [[97, 100, 100], key.data.toList]) := hw2.symm
 have HWL : Hid (∀ x ∈ WD, x.length ≤ 1000) := fun x hx => by
   rw [HWD.out] at hx
   simp only [List.mem_cons, List.not_mem_nil, or_false] at hx
   rcases hx with rfl | rfl
   · simp
   · exact HKL.out
 clear hw2
 rw [hwl] at hO
 go_wp2_with (first | (go_at_call 49; refine (HV.out _).mono ?_; rintro e X1 ⟨rfl, hb1⟩; have own1 := rowS_below hO hb1) | (at_builtin; refine wpList_append_own _ rfl _ _ 24 rfl W0.heap.size 9 i0 (.string ⟨#[]⟩) 1 16 Tryz.underlying24 hi hz0 hz1 hz2 rfl (by decide) _ 2 _ (by first | rfl | simp [Act.eval]) (own1.alloc _) ⟨X1.heap.size, 0, none⟩ 1 1 [.string (B (dec v))] (by first | rfl | simp [Act.eval]) rfl ?c1 ?c2 ?c3 ?c4 ?c5 ?_))
 case c1 =>
   intro j u hj
   match j, hj with
   | 0, hj => simp at hj; subst hj; simp [Addr.add]
 case c2 => intro u hu; simp at hu; subst hu; rfl
 case c3 => unfold maxLen; simp
 case c4 => simp
 case c5 => have := hb1.size; have := hB0.size; simp; omega
 intro v1 V1 hown1 hgrow1 _
 have HR1 : Hid (_) := next_row hwl hO hB0 hb1 own1 hown1 hgrow1
 have z0 := old_cell hlV hbl hO hb1 hgrow1 y0
 have z3 := old_cell hlV hbl hO hb1 hgrow1 y3
 have hlV' : b < V1.heap.size := Nat.lt_of_lt_of_le hlV (Nat.le_trans hb1.size (by have := hgrow1.size; simp at this; omega))
 obtain ⟨hO', hB'⟩ := HR1.out
 have HWL' : Hid (∀ x ∈ WD ++ [dec v], x.length ≤ 1000) := fun x hx => by
   rcases List.mem_append.1 hx with h | h
   · exact HWL.out x h
   · simp at h; subst h; exact dec_len v
 have HWD' : Hid (WD ++ [dec v] = [[97, 100, 100], key.data.toList, dec v]) := by show _ = _; rw [HWD.out]; rfl
 have hwl' : (WD ++ [dec v]).length = 3 := by simp [hwl]
 clear hO hown1 hgrow1 own1 hb1 HR1 y0 y2 y3 hB0 hlV HWL HWD hwl HV
 rw [hwl'] at hO'
 generalize WD ++ [dec v] = WD at hO' HWL' HWD' hwl'
 rename WD.length = 3 => hwl
 rename Hid (WD = _) => HWD
 rename Hid (∀ x ∈ WD, _) => HWL
 have hO := hO'
 have hB0 := hB'
 have hlV := hlV'
 clear hO' hB' hlV'
 have y0 := z0
 have y3 := z3
 have y2 := z0
 clear z0 z3
 rw [← hwl] at hO
 obtain ⟨g, cp, hev, hcl⟩ := rowS_at (by intro e; rw [e] at hwl; simp at hwl) hO
 rw [hwl] at hev
 subst hev
 have hcall := l1Words g cp WD _ (by omega) HWL.out hcl
 rw [hwl, HWD.out] at hcall
 clear hcl hO y2 y3 HWL
 generalize hjw : joinW [[97, 100, 100], key.data.toList, dec v] = jw at hcall
 have HJW : Hid (joinW [[97, 100, 100], key.data.toList, dec v] = jw) := hjw
 have HFIN : Hid (_) := HLO.out _ hB0
 clear hjw
 go_wp2_with fail
 refine hcall.mono ?_
 rintro e w' ⟨rfl, rfl⟩
 clear hcall
 go_wp2
 go_ret
 refine ⟨by rw [HJW.out]; rfl, ?_⟩
 rw [HBB.out]
 exact HFIN.out
set_option maxHeartbeats 3200000 in
theorem l16Show4 (key : ByteArray) (v n : Nat) (w : World) (hkey : keyB key = true) (hv : v ≤ 99) (hn : n ≤ 99) :
   Calls Tryz.prog 36 #[.agg #[.int .i64 4, .string key, .int .i64 (v : Int), .int .i64 (n : Int)]] w fun e w' => e = .returned (.string (B (joinW [[105, 102], key.data.toList, dec v, dec n]))) ∧ Below w.heap.size w w' := by
 obtain ⟨i0, hi, hz0, hz1, hz2⟩ := info_parts Kn.infoS
 have P0 : Hid (_) := box4 w (.int .i64 4) (.string key) (.int .i64 (v : Int)) (.int .i64 (n : Int)) 34
 have HKL : Hid (key.data.toList.length ≤ 1000) := key_len hkey
 have HV : Hid (l1IntAt v) := fun W => Kn.l1Int v W (by omega)
 have HN : Hid (l1IntAt n) := fun W => Kn.l1Int n W (by omega)
 clear hkey
 go_enter Tryz.func36, Tryz.ntmps36
 go_upto_region 1 with fail
 generalize w.alloc (.cells #[.int .i64 4, .string key, .int .i64 (v : Int), .int .i64 (n : Int)] 34) = W0 at P0 ⊢
 obtain ⟨B0, x0, x1, x2, x3, hl⟩ := P0
 generalize hbb : w.heap.size = b at B0 x0 x1 x2 x3 hl ⊢
 have HBB : Hid (w.heap.size = b) := hbb
 clear hbb
 have HP : Hid (_) := lit2 W0 #[.string { data := #[112, 117, 116] }, .string { data := #[99, 117, 116] }, .string { data := #[97, 100, 100] }, .string { data := #[105, 102] }] [105, 102] key
 rw [show B [105, 102] = { data := #[105, 102] } from rfl] at HP
 go_region
 generalize ((W0.alloc (.cells #[.string { data := #[112, 117, 116] }, .string { data := #[99, 117, 116] }, .string { data := #[97, 100, 100] }, .string { data := #[105, 102] }] 9)).alloc (.cells #[.string { data := #[105, 102] }, .string key] 9)).drew = V0 at HP ⊢
 obtain ⟨hO, hB⟩ := HP.out
 have y0 := (hB.cell (p := ⟨b, 0, none⟩) hl).trans x0
 have y2 := (hB.cell (p := ⟨b, 2, none⟩) hl).trans x2
 have y3 := (hB.cell (p := ⟨b, 3, none⟩) hl).trans x3
 have hlV : b < V0.heap.size := Nat.lt_of_lt_of_le hl hB.size
 have hB0 : Below W0.heap.size W0 V0 := hB
 have HLO : Hid (∀ V : World, Below W0.heap.size W0 V → Below b w V) := fun V hV => B0.trans (hV.mono (Nat.le_of_lt hl))
 have hbl : b < W0.heap.size := hl
 clear x0 x1 x2 x3 HP hB B0
 generalize W0.heap.size + 1 = q0 at hO ⊢
 generalize hw2 : [[105, 102], key.data.toList] = WD at hO
 have hwl : WD.length = 2 := by rw [← hw2]; rfl
 have HWD : Hid (WD = [[105, 102], key.data.toList]) := hw2.symm
 have HWL : Hid (∀ x ∈ WD, x.length ≤ 1000) := fun x hx => by
   rw [HWD.out] at hx
   simp only [List.mem_cons, List.not_mem_nil, or_false] at hx
   rcases hx with rfl | rfl
   · simp
   · exact HKL.out
 clear hw2
 rw [hwl] at hO
 go_wp2_with (first | (go_at_call 49; refine (HV.out _).mono ?_; rintro e X1 ⟨rfl, hb1⟩; have own1 := rowS_below hO hb1) | (at_builtin; refine wpList_append_own _ rfl _ _ 24 rfl W0.heap.size 9 i0 (.string ⟨#[]⟩) 1 16 Tryz.underlying24 hi hz0 hz1 hz2 rfl (by decide) _ 2 _ (by first | rfl | simp [Act.eval]) (own1.alloc _) ⟨X1.heap.size, 0, none⟩ 1 1 [.string (B (dec v))] (by first | rfl | simp [Act.eval]) rfl ?c1 ?c2 ?c3 ?c4 ?c5 ?_))
 case c1 =>
   intro j u hj
   match j, hj with
   | 0, hj => simp at hj; subst hj; simp [Addr.add]
 case c2 => intro u hu; simp at hu; subst hu; rfl
 case c3 => unfold maxLen; simp
 case c4 => simp
 case c5 => have := hb1.size; have := hB0.size; simp; omega
 intro v1 V1 hown1 hgrow1 _
 have HR1 : Hid (_) := next_row hwl hO hB0 hb1 own1 hown1 hgrow1
 have z0 := old_cell hlV hbl hO hb1 hgrow1 y0
 have z3 := old_cell hlV hbl hO hb1 hgrow1 y3
 have hlV' : b < V1.heap.size := Nat.lt_of_lt_of_le hlV (Nat.le_trans hb1.size (by have := hgrow1.size; simp at this; omega))
 obtain ⟨hO', hB'⟩ := HR1.out
 have HWL' : Hid (∀ x ∈ WD ++ [dec v], x.length ≤ 1000) := fun x hx => by
   rcases List.mem_append.1 hx with h | h
   · exact HWL.out x h
   · simp at h; subst h; exact dec_len v
 have HWD' : Hid (WD ++ [dec v] = [[105, 102], key.data.toList, dec v]) := by show _ = _; rw [HWD.out]; rfl
 have hwl' : (WD ++ [dec v]).length = 3 := by simp [hwl]
 clear hO hown1 hgrow1 own1 hb1 HR1 y0 y2 y3 hB0 hlV HWL HWD hwl HV
 rw [hwl'] at hO'
 generalize WD ++ [dec v] = WD at hO' HWL' HWD' hwl'
 rename WD.length = 3 => hwl
 rename Hid (WD = _) => HWD
 rename Hid (∀ x ∈ WD, _) => HWL
 have hO := hO'
 have hB0 := hB'
 have hlV := hlV'
 clear hO' hB' hlV'
 have y0 := z0
 have y3 := z3
 have y2 := z0
 clear z0 z3
 go_wp2_with (first | (go_at_call 49; refine (HN.out _).mono ?_; rintro e X2 ⟨rfl, hb2⟩; have own2 := rowS_below hO hb2) | (at_builtin; refine wpList_append_own _ rfl _ _ 24 rfl W0.heap.size 9 i0 (.string ⟨#[]⟩) 1 16 Tryz.underlying24 hi hz0 hz1 hz2 rfl (by decide) _ 3 _ (by first | rfl | simp [Act.eval]) (own2.alloc _) ⟨X2.heap.size, 0, none⟩ 1 1 [.string (B (dec n))] (by first | rfl | simp [Act.eval]) rfl ?c1 ?c2 ?c3 ?c4 ?c5 ?_))
 case c1 =>
   intro j u hj
   match j, hj with
   | 0, hj => simp at hj; subst hj; simp [Addr.add]
 case c2 => intro u hu; simp at hu; subst hu; rfl
 case c3 => unfold maxLen; simp
 case c4 => simp
 case c5 => have := hb2.size; have := hB0.size; simp; omega
 intro v2 V2 hown2 hgrow2 _
 have HR2 : Hid (_) := next_row hwl hO hB0 hb2 own2 hown2 hgrow2
 have z0 := old_cell hlV hbl hO hb2 hgrow2 y0
 have z3 := old_cell hlV hbl hO hb2 hgrow2 y3
 have hlV' : b < V2.heap.size := Nat.lt_of_lt_of_le hlV (Nat.le_trans hb2.size (by have := hgrow2.size; simp at this; omega))
 obtain ⟨hO', hB'⟩ := HR2.out
 have HWL' : Hid (∀ x ∈ WD ++ [dec n], x.length ≤ 1000) := fun x hx => by
   rcases List.mem_append.1 hx with h | h
   · exact HWL.out x h
   · simp at h; subst h; exact dec_len n
 have HWD' : Hid (WD ++ [dec n] = [[105, 102], key.data.toList, dec v, dec n]) := by show _ = _; rw [HWD.out]; rfl
 have hwl' : (WD ++ [dec n]).length = 4 := by simp [hwl]
 clear hO hown2 hgrow2 own2 hb2 HR2 y0 y2 y3 hB0 hlV HWL HWD hwl HN
 rw [hwl'] at hO'
 generalize WD ++ [dec n] = WD at hO' HWL' HWD' hwl'
 rename WD.length = 4 => hwl
 rename Hid (WD = _) => HWD
 rename Hid (∀ x ∈ WD, _) => HWL
 have hO := hO'
 have hB0 := hB'
 have hlV := hlV'
 clear hO' hB' hlV'
 have y0 := z0
 have y3 := z3
 have y2 := z0
 clear z0 z3
 rw [← hwl] at hO
 obtain ⟨g, cp, hev, hcl⟩ := rowS_at (by intro e; rw [e] at hwl; simp at hwl) hO
 rw [hwl] at hev
 subst hev
 have hcall := l1Words g cp WD _ (by omega) HWL.out hcl
 rw [hwl, HWD.out] at hcall
 clear hcl hO y2 y3 HWL
 generalize hjw : joinW [[105, 102], key.data.toList, dec v, dec n] = jw at hcall
 have HJW : Hid (joinW [[105, 102], key.data.toList, dec v, dec n] = jw) := hjw
 have HFIN : Hid (_) := HLO.out _ hB0
 clear hjw
 go_wp2_with fail
 refine hcall.mono ?_
 rintro e w' ⟨rfl, rfl⟩
 clear hcall
 go_wp2
 go_ret
 refine ⟨by rw [HJW.out]; rfl, ?_⟩
 rw [HBB.out]
 exact HFIN.out
end De
end Go.Proofs.YtadbafppodhfpaaGreatDoor
namespace Go.Proofs.YtadbafppodhfpaaGreatDoor
open Go.RowKit
set_option maxRecDepth 100000
set_option linter.unusedVariables false
namespace De
open Kn (B dec)
theorem l16ShowD (d : D) (w : World) (h : okD d = true) : Calls Tryz.prog 36 #[.agg #[.int .i64 d.kind, .string d.key, .int .i64 d.val, .int .i64 d.new]] w fun e w' => e = .returned (.string (B (showD d))) ∧ Below w.heap.size w w' := by
 have o := (okD_iff d).1 h
 obtain ⟨kind, key, val, new⟩ := d
 obtain ⟨k1, k4, kb, v0, v1, n0, n1, cut, ifs⟩ := o
 dsimp only at k1 k4 kb v0 v1 n0 n1 cut ifs ⊢
 obtain ⟨v, rfl⟩ := Int.eq_ofNat_of_zero_le v0
 obtain ⟨n, rfl⟩ := Int.eq_ofNat_of_zero_le n0
 have hk : kind = 1 ∨ kind = 2 ∨ kind = 3 ∨ kind = 4 := by omega
 rcases hk with rfl | rfl | rfl | rfl
 · exact l16Show1 key v n w kb (by omega) (by omega)
 · exact l16Show2 key v n w kb (by omega) (by omega)
 · exact l16Show3 key v n w kb (by omega) (by omega)
 · exact l16Show4 key v n w kb (by omega) (by omega)
def textD (d : D) : ByteArray := if okD d then B (showD d) else ⟨#[]⟩
set_option maxHeartbeats 800000 in
theorem specShowDeed (d : D) (w : World) (hs : d.key.size ≤ 1099511627776) : Calls Tryz.prog 27 #[.agg #[.int .i64 d.kind, .string d.key, .int .i64 d.val, .int .i64 d.new]] w fun e w' => e = .returned (.string (textD d)) ∧ Below w.heap.size w w' := by
 have P0 : Hid (_) := box4 w (.int .i64 d.kind) (.string d.key) (.int .i64 d.val) (.int .i64 d.new) 34
 have HOK : Hid (∀ W : World, Calls Tryz.prog 35 #[.agg #[.int .i64 d.kind, .string d.key, .int .i64 d.val, .int .i64 d.new]] W fun e w' => e = .returned (.bool (okD d)) ∧ Below W.heap.size W w') := fun W => specDeedOk d.kind d.key d.val d.new W hs
 have HSH : Hid (okD d = true → ∀ W : World, Calls Tryz.prog 36 #[.agg #[.int .i64 d.kind, .string d.key, .int .i64 d.val, .int .i64 d.new]] W fun e w' => e = .returned (.string (B (showD d))) ∧ Below W.heap.size W w') := fun h W => l16ShowD d W h
 have HT : Hid (textD d = if okD d then B (showD d) else ⟨#[]⟩) := rfl
 clear hs
 generalize textD d = t at HT ⊢
 generalize B (showD d) = u at HSH HT
 go_enter Tryz.func27, Tryz.ntmps27
 go_upto_region 1 with fail
 generalize w.alloc (.cells #[.int .i64 d.kind, .string d.key, .int .i64 d.val, .int .i64 d.new] 34) = W0 at P0 ⊢
 obtain ⟨B0, x0, x1, x2, x3, hl⟩ := P0
 go_wp2_with fail
 refine (HOK.out W0).mono ?_
 rintro e W1 ⟨rfl, hb⟩
 have B1 := B0.trans (hb.mono B0.size)
 have y0 := (hb.cell (p := ⟨w.heap.size, 0, none⟩) hl).trans x0
 have y1 := (hb.cell (p := ⟨w.heap.size, 1, none⟩) hl).trans x1
 have y2 := (hb.cell (p := ⟨w.heap.size, 2, none⟩) hl).trans x2
 have y3 := (hb.cell (p := ⟨w.heap.size, 3, none⟩) hl).trans x3
 have HB1 : Hid (Below w.heap.size w W1) := B1
 clear hb B0 B1 x0 x1 x2 x3 HOK
 cases hok : okD d
 · have ht : t = ⟨#[]⟩ := by rw [HT.out, hok]; rfl
   subst ht
   clear HT hok HSH
   go_wp2
   go_ret
   exact ⟨rfl, HB1.out⟩
 · have ht : t = u := by rw [HT.out, hok]; rfl
   subst ht
   have hsh := HSH.out hok W1
   clear HT hok HSH
   go_wp2_with fail
   refine hsh.mono ?_
   rintro e W2 ⟨rfl, hb⟩
   have HB2 : Hid (Below w.heap.size w W2) := HB1.out.trans (hb.mono HB1.out.size)
   clear hb hsh
   go_wp2
   go_ret
   exact ⟨rfl, HB2.out⟩
end De
end Go.Proofs.YtadbafppodhfpaaGreatDoor
namespace Go.Proofs.YtadbafppodhfpaaGreatDoor
open Go.RowKit
set_option maxRecDepth 100000
namespace Lst
open Memb (Own)
def Rd (w : World) (ao : Option Addr) (l : List Int) : Prop := l = [] ∨ ∃ g, ao = some ⟨g, 0, none⟩ ∧ ∀ j, j < l.length → w.cell? ⟨g, j, none⟩ = some (.int .i64 (l.getD j 0))
theorem own_block {B : Nat} {w : World} {ao : Option Addr} {cap : Nat} {l : List Int} (h : Own B w ao cap l) (hl : l ≠ []) : ∃ g, ao = some ⟨g, 0, none⟩ ∧ B ≤ g ∧ g < w.heap.size := by
 have hlt := World.ownsRow.lt h
 obtain ⟨_, ⟨_, hn⟩ | ⟨g, cap', cur, hv, hB, _⟩⟩ := h
 · exact absurd (List.length_eq_zero_iff.1 hn) hl
 · simp only [Value.slice.injEq] at hv
   obtain ⟨rfl, _, _⟩ := hv
   exact ⟨g, rfl, hB, (hlt g rfl).2⟩
theorem own_rd {B : Nat} {w : World} {ao : Option Addr} {cap : Nat} {l : List Int} (h : Own B w ao cap l) : Rd w ao l := by
 by_cases hl : l = []
 · exact .inl hl
 · obtain ⟨g, rfl, _, _⟩ := own_block h hl
   refine .inr ⟨g, rfl, fun j hj => ?_⟩
   have := World.ownsRow.cellAt h j (by omega)
   rw [this]; simp [hj]
theorem own_below {B : Nat} {w w' : World} {ao : Option Addr} {cap : Nat} {l : List Int} (h : Own B w ao cap l) (hb : Below w.heap.size w w') : Own B w' ao cap l := by
 have hlt := World.ownsRow.lt h
 unfold Own at *
 obtain ⟨h1, h2⟩ := h
 refine ⟨h1, ?_⟩
 rcases h2 with h2 | ⟨g, cap', cur, hv, hB, hg, rest⟩
 · exact .inl h2
 · refine .inr ⟨g, cap', cur, hv, hB, ?_, rest⟩
   rw [hv] at hlt
   rw [hb.block g (hlt g rfl).2]; exact hg
set_option maxHeartbeats 800000 in
theorem alike (l : List Int) (a b : Option Addr) (ca cb : Nat) (w : World) (hn : l.length ≤ 1048576) (ha : Rd w a l) (hb : Rd w b l) :
   Calls Tryz.prog 10 #[.slice a l.length ca, .slice b l.length cb] w fun e w' => e = .returned (.bool true) ∧ ∃ n, w' = w.drewN n := by
 go_enter Tryz.func10, Tryz.ntmps10
 go_wp2
 go_loopw [5] (fun i wr => ∃ k n : Nat, k ≤ l.length ∧ i = .int .i64 k ∧ wr = w.drewN n) (fun i _ => l.length - (intOf i).toNat)
 case atStart => exact ⟨0, 0, by omega, rfl, rfl⟩
 case round =>
   obtain ⟨k, n, hkn, rfl, rfl⟩ := hrel
   by_cases hlt : k < l.length
   · rcases ha with h | ⟨g, rfl, hc⟩
     · exfalso; rw [h] at hlt; simp at hlt
     · rcases hb with h | ⟨g', rfl, hc'⟩
       · exfalso; rw [h] at hlt; simp at hlt
       · have h1 := hc k hlt
         have h2 := hc' k hlt
         clear hc hc'
         generalize l.getD k 0 = x at h1 h2
         go_wp2_with fail
         go_quiet (fail)
         go_wp2
         go_roundw
         case rel => exact ⟨k + 1, _, by omega, by go_num, rfl⟩
         case measure => simp [intOf]; omega
   · go_wp2
     go_ret
     exact ⟨rfl, n, rfl⟩
end Lst
end Go.Proofs.YtadbafppodhfpaaGreatDoor
namespace Go.Proofs.YtadbafppodhfpaaGreatDoor
open Go.RowKit
set_option maxRecDepth 100000
namespace Kn
end Kn
end Go.Proofs.YtadbafppodhfpaaGreatDoor
namespace Go.Proofs.YtadbafppodhfpaaGreatDoor
open Go.RowKit
set_option maxRecDepth 100000
namespace Kn
end Kn
end Go.Proofs.YtadbafppodhfpaaGreatDoor
