/-
 What the small functions of the exact statements on lists of numbers answer: a list handed on into new memory, and a list marked; for lists of at most 2^20 numbers.
-/
import Derived.Test.YtjnhniffgeepjaaGreatezg5
import Derived.Laws.AppendOwnNone
set_option linter.unusedVariables false
namespace Go.Proofs.YtjnhniffgeepjaaGreat
open Go.RowKit
set_option maxRecDepth 100000
namespace Tl
open Kn (K okK)
open Bit (bit withB memTo)
open Lc (at' RdK WordsOk laceB setB)
open Sg (isB bel belows NumsPost)
open Nd (nodN nodS)
def baseS (L : List K) (k : Nat) (e : Int) : Int := if 0 ≤ e then bits .andNot .i64 (bel L k) (bel L e.toNat) else bel L k
def frP (L : List K) (k : Nat) (e : Int) : Nat → Int
 | 0 => baseS L k e
 | b + 1 => if bit (frP L k e b) b && !nodN L k b then bits .andNot .i64 (frP L k e b) (2 ^ b) else frP L k e b
theorem base_bd {L : List K} {k : Nat} (hk : k < 60) {e : Int} : 0 ≤ baseS L k e ∧ baseS L k e < 1152921504606846976 := by
 have h1 := Sg.bel_bd L k hk
 unfold baseS
 split
 · exact Sg.andNot_bd' _ _ h1.1 h1.2
 · exact h1
theorem bit_base {L : List K} {k : Nat} (hk : k < 60) {e : Int} (he : e < 60) (j : Nat) : bit (baseS L k e) j = (bit (bel L k) j && !(decide (0 ≤ e) && bit (bel L e.toNat) j)) := by
 have h1 := Sg.bel_bd L k hk
 unfold baseS
 by_cases h0 : 0 ≤ e
 · have h2 := Sg.bel_bd L e.toNat (by omega)
   rw [if_pos h0, Sg.bit_andNot _ _ h1.1 h1.2 h2.1 h2.2, decide_eq_true h0, Bool.true_and]
 · rw [if_neg h0, decide_eq_false h0]; simp
theorem pow_bd {b : Nat} (hb : b < 60) : (0 : Int) ≤ 2 ^ b ∧ (2 : Int) ^ b < 1152921504606846976 := by
 have h1 := Bit.pow_pos' b
 have h2 : (2 : Nat) ^ b < 2 ^ 60 := Nat.pow_lt_pow_right (by decide) hb
 have h3 : ((2 ^ b : Nat) : Int) = (2 : Int) ^ b := by simp
 omega
theorem frP_bits {L : List K} {k : Nat} (hk : k < 60) {e : Int} (b : Nat) (hb : b ≤ 60) : (0 ≤ frP L k e b ∧ frP L k e b < 1152921504606846976) ∧ ∀ j, bit (frP L k e b) j = (bit (baseS L k e) j && (!decide (j < b) || nodN L k j)) := by
 induction b with
 | zero => exact ⟨base_bd hk, fun j => by simp [frP]⟩
 | succ b ih =>
   have ih := ih (by omega)
   have pb := pow_bd (b := b) (by omega)
   unfold frP
   cases hq : (bit (frP L k e b) b && !nodN L k b)
   · rw [if_neg (by simp)]
     refine ⟨ih.1, fun j => ?_⟩
     rw [ih.2 j]
     by_cases ej : j = b
     · subst ej
       rw [ih.2 j] at hq
       cases h1 : bit (baseS L k e) j
       · rfl
       · rw [h1] at hq
         cases h2 : nodN L k j
         · rw [h2] at hq; simp at hq
         · simp
     · have : decide (j < b + 1) = decide (j < b) := by simp; omega
       rw [this]
   · rw [if_pos rfl]
     refine ⟨Sg.andNot_bd' _ _ ih.1.1 ih.1.2, fun j => ?_⟩
     rw [Sg.bit_andNot _ _ ih.1.1 ih.1.2 pb.1 pb.2, Sg.bit_pow, ih.2 j]
     rw [Bool.and_eq_true, Bool.not_eq_true'] at hq
     by_cases ej : j = b
     · subst ej
       rw [hq.2]; simp
     · have : decide (j < b + 1) = decide (j < b) := by simp; omega
       rw [this, decide_eq_false ej]; simp
theorem frP_end {L : List K} (hl : laceB L = true) {k : Nat} (hk : k < L.length) {e : Int} (he : e < (L.length : Int)) : frP L k e L.length = frS L k e L.length := by
 have h60 := ((Lc.lace_iff L).1 hl).1
 have h1 := frP_bits (L := L) (show k < 60 by omega) (e := e) L.length h60
 refine Lc.eq_of_bits _ _ h1.1.1 (frS_bd L k e _ h60).1 fun j => ?_
 rw [h1.2 j, bit_frS L k e _ h60, bit_base (by omega) (by omega)]
 unfold fresN
 by_cases hj : j < L.length
 · rw [decide_eq_true hj]; simp [Bool.and_assoc]
 · have hb : bit (bel L k) j = false := by
     rw [Bool.eq_false_iff]; intro q
     have := Ag.sees_le hl hk q
     omega
   rw [hb]; simp
set_option maxHeartbeats 1600000 in
theorem l11Fresh (bb bc nb nc : Nat) (L : List K) (k : Nat) (e : Int) (w : World) (hl : laceB L = true) (hk : k < L.length) (he0 : -1 ≤ e) (he : e < (L.length : Int)) (hbel : ∀ i, i < L.length → w.cell? ⟨bb, i, none⟩ = some (.int .i64 (bel L i))) (hnod : ∀ i, i < L.length → w.cell? ⟨nb, i, none⟩ = some (.int .i64 (nodS L i L.length))) :
   Calls Tryz.prog 78 #[.slice (some ⟨bb, 0, none⟩) L.length bc, .slice (some ⟨nb, 0, none⟩) L.length nc, .int .i64 (k : Int), .int .i64 e] w fun en w' => en = .returned (.int .i64 (frS L k e L.length)) ∧ w = w' := by
 have h60 := ((Lc.lace_iff L).1 hl).1
 have hki : (k : Int) < (L.length : Int) := by omega
 have ck := hbel k hk
 have HE : Hid (frP L k e L.length = frS L k e L.length) := frP_end hl hk he
 have HNOD : Hid (∀ i, i < L.length → w.cell? ⟨nb, i, none⟩ = some (.int .i64 (nodS L i L.length))) := hnod
 have HFB : Hid (∀ b, b ≤ 60 → 0 ≤ frP L k e b ∧ frP L k e b < 1152921504606846976) := fun b hb => (frP_bits (by omega) b hb).1
 have HST : Hid (∀ b, frP L k e (b + 1) = if bit (frP L k e b) b && !nodN L k b then bits .andNot .i64 (frP L k e b) (2 ^ b) else frP L k e b) := fun b => rfl
 have HB0 : Hid (frP L k e 0 = baseS L k e) := rfl
 clear hnod hl
 by_cases h0 : 0 ≤ e
 · obtain ⟨q, rfl⟩ := Int.eq_ofNat_of_zero_le h0
   have ce := hbel q (by omega)
   have HBQ : Hid (baseS L k (q : Int) = bits .andNot .i64 (bel L k) (bel L q)) := by show _ = _; unfold baseS; rw [if_pos h0, Int.toNat_natCast]
   clear hbel
   generalize bel L k = yk at ck HBQ
   generalize bel L q = yq at ce HBQ
   go_enter Tryz.func78, Tryz.ntmps78
   go_wp2
   go_loop [9, 10] (fun sv iv => ∃ b : Nat, b ≤ L.length ∧ iv = .int .i64 (b : Int) ∧ sv = .int .i64 (frP L k (q : Int) b)) (fun _ iv => L.length - (intOf iv).toNat)
   case atStart => exact ⟨0, by omega, rfl, by rw [HB0.out]; rw [HBQ.out]⟩
   case round =>
     obtain ⟨b, hb, rfl, rfl⟩ := hrel
     by_cases hlt : b < L.length
     · have hbi : (b : Int) < (L.length : Int) := by omega
       have hfb := HFB.out b (by omega)
       have HS := HST.out b
       have cn := HNOD.out b hlt
       have hnb := Nd.nodS_bd L b L.length h60
       have hc1 : ∀ W : World, Calls Tryz.prog 69 #[.int .i64 (frP L k (q : Int) b), .int .i64 (b : Int)] W fun en w' => en = .returned (.bool (bit (frP L k (q : Int) b) b)) ∧ W = w' := fun W => (Db.has_call _ b _ hfb.1 hfb.2 (by omega) rfl W).mono fun _ _ q => ⟨q.1, q.2.symm⟩
       have hc2 : ∀ W : World, Calls Tryz.prog 69 #[.int .i64 (nodS L b L.length), .int .i64 (k : Int)] W fun en w' => en = .returned (.bool (nodN L k b)) ∧ W = w' := fun W => (Db.has_call _ k _ hnb.1 hnb.2 (by omega) (by rw [Nd.bit_nodS L b _ h60, decide_eq_true hk]; rfl) W).mono fun _ _ q => ⟨q.1, q.2.symm⟩
       have HSS : Hid (frP L k (q : Int) (b + 1) = if bit (frP L k (q : Int) b) b && !nodN L k b then bits .andNot .i64 (frP L k (q : Int) b) (2 ^ b) else frP L k (q : Int) b) := HS
       clear HS hnb
       generalize bit (frP L k (q : Int) b) b = b1 at hc1 HSS
       generalize nodN L k b = b2 at hc2 HSS
       generalize frP L k (q : Int) b = fp at hc1 HSS hfb ⊢
       generalize nodS L b L.length = nv at cn hc2
       cases b1
       · have HD : Hid (frP L k (q : Int) (b + 1) = fp) := by show _ = _; rw [HSS.out]; rfl
         clear HSS hc2
         go_wp2_with (go_at_call 69; refine (hc1 _).mono ?_; rintro e' w' ⟨rfl, rfl⟩)
         go_round
         case rel => exact ⟨b + 1, by omega, by go_num, by rw [HD.out]⟩
         case measure => simp [intOf]; omega
       · go_wp2_with fail
         refine (hc1 _).mono ?_
         rintro e' w' ⟨rfl, rfl⟩
         go_wp2_with fail
         refine (hc2 _).mono ?_
         rintro e' w' ⟨rfl, rfl⟩
         cases b2
         · have HD : Hid (frP L k (q : Int) (b + 1) = bits .andNot .i64 fp (2 ^ b)) := by show _ = _; rw [HSS.out]; rfl
           clear HSS hc1 hc2
           go_wp2_with (go_at_call 68; refine (Base.l1Bit _ _ (by omega) (by omega)).mono ?_; rintro e' w' ⟨rfl, rfl⟩; rw [Int.toNat_natCast])
           go_round
           case rel => exact ⟨b + 1, by omega, by go_num, by rw [HD.out]⟩
           case measure => simp [intOf]; omega
         · have HD : Hid (frP L k (q : Int) (b + 1) = fp) := by show _ = _; rw [HSS.out]; rfl
           clear HSS hc1 hc2
           go_wp2
           go_round
           case rel => exact ⟨b + 1, by omega, by go_num, by rw [HD.out]⟩
           case measure => simp [intOf]; omega
     · obtain rfl : b = L.length := by omega
       rw [HE.out]
       go_wp2
       go_ret
       exact ⟨rfl, rfl⟩
 · have h0' : ¬ (0 : Int) ≤ e := h0
   have HBQ : Hid (baseS L k e = bel L k) := by show _ = _; unfold baseS; rw [if_neg h0]
   clear hbel h0
   generalize bel L k = yk at ck HBQ
   go_enter Tryz.func78, Tryz.ntmps78
   go_wp2
   go_loop [9, 10] (fun sv iv => ∃ b : Nat, b ≤ L.length ∧ iv = .int .i64 (b : Int) ∧ sv = .int .i64 (frP L k e b)) (fun _ iv => L.length - (intOf iv).toNat)
   case atStart => exact ⟨0, by omega, rfl, by rw [HB0.out]; rw [HBQ.out]⟩
   case round =>
     obtain ⟨b, hb, rfl, rfl⟩ := hrel
     by_cases hlt : b < L.length
     · have hbi : (b : Int) < (L.length : Int) := by omega
       have hfb := HFB.out b (by omega)
       have HS := HST.out b
       have cn := HNOD.out b hlt
       have hnb := Nd.nodS_bd L b L.length h60
       have hc1 : ∀ W : World, Calls Tryz.prog 69 #[.int .i64 (frP L k e b), .int .i64 (b : Int)] W fun en w' => en = .returned (.bool (bit (frP L k e b) b)) ∧ W = w' := fun W => (Db.has_call _ b _ hfb.1 hfb.2 (by omega) rfl W).mono fun _ _ q => ⟨q.1, q.2.symm⟩
       have hc2 : ∀ W : World, Calls Tryz.prog 69 #[.int .i64 (nodS L b L.length), .int .i64 (k : Int)] W fun en w' => en = .returned (.bool (nodN L k b)) ∧ W = w' := fun W => (Db.has_call _ k _ hnb.1 hnb.2 (by omega) (by rw [Nd.bit_nodS L b _ h60, decide_eq_true hk]; rfl) W).mono fun _ _ q => ⟨q.1, q.2.symm⟩
       have HSS : Hid (frP L k e (b + 1) = if bit (frP L k e b) b && !nodN L k b then bits .andNot .i64 (frP L k e b) (2 ^ b) else frP L k e b) := HS
       clear HS hnb
       generalize bit (frP L k e b) b = b1 at hc1 HSS
       generalize nodN L k b = b2 at hc2 HSS
       generalize frP L k e b = fp at hc1 HSS hfb ⊢
       generalize nodS L b L.length = nv at cn hc2
       cases b1
       · have HD : Hid (frP L k e (b + 1) = fp) := by show _ = _; rw [HSS.out]; rfl
         clear HSS hc2
         go_wp2_with (go_at_call 69; refine (hc1 _).mono ?_; rintro e' w' ⟨rfl, rfl⟩)
         go_round
         case rel => exact ⟨b + 1, by omega, by go_num, by rw [HD.out]⟩
         case measure => simp [intOf]; omega
       · go_wp2_with fail
         refine (hc1 _).mono ?_
         rintro e' w' ⟨rfl, rfl⟩
         go_wp2_with fail
         refine (hc2 _).mono ?_
         rintro e' w' ⟨rfl, rfl⟩
         cases b2
         · have HD : Hid (frP L k e (b + 1) = bits .andNot .i64 fp (2 ^ b)) := by show _ = _; rw [HSS.out]; rfl
           clear HSS hc1 hc2
           go_wp2_with (go_at_call 68; refine (Base.l1Bit _ _ (by omega) (by omega)).mono ?_; rintro e' w' ⟨rfl, rfl⟩; rw [Int.toNat_natCast])
           go_round
           case rel => exact ⟨b + 1, by omega, by go_num, by rw [HD.out]⟩
           case measure => simp [intOf]; omega
         · have HD : Hid (frP L k e (b + 1) = fp) := by show _ = _; rw [HSS.out]; rfl
           clear HSS hc1 hc2
           go_wp2
           go_round
           case rel => exact ⟨b + 1, by omega, by go_num, by rw [HD.out]⟩
           case measure => simp [intOf]; omega
     · obtain rfl : b = L.length := by omega
       rw [HE.out]
       go_wp2
       go_ret
       exact ⟨rfl, rfl⟩
theorem frS_in {L : List K} (h60 : L.length ≤ 60) (k : Nat) (e : Int) : ∀ i, bit (frS L k e L.length) i = true → i < L.length := fun i hi => by
 rw [bit_frS L k e _ h60, Bool.and_eq_true, decide_eq_true_eq] at hi
 exact hi.1
structure TabsN (w : World) (L : List K) (bb nb : Nat) : Prop where
 bel : ∀ i, i < L.length → w.cell? ⟨bb, i, none⟩ = some (.int .i64 (Sg.bel L i))
 nod : ∀ i, i < L.length → w.cell? ⟨nb, i, none⟩ = some (.int .i64 (nodS L i L.length))
 lb : bb < w.heap.size
 ln : nb < w.heap.size
theorem TabsN.below {w w' : World} {L : List K} {bb nb : Nat} (t : TabsN w L bb nb) (hb : Below w.heap.size w w') : TabsN w' L bb nb :=
 ⟨fun i hi => (hb.cell (p := ⟨bb, i, none⟩) t.lb).trans (t.bel i hi), fun i hi => (hb.cell (p := ⟨nb, i, none⟩) t.ln).trans (t.nod i hi), Nat.lt_of_lt_of_le t.lb hb.size, Nat.lt_of_lt_of_le t.ln hb.size⟩
structure TabB (w : World) (L : List K) (bb : Nat) : Prop where
 bel : ∀ i, i < L.length → w.cell? ⟨bb, i, none⟩ = some (.int .i64 (Sg.bel L i))
 lb : bb < w.heap.size
theorem TabB.below {w w' : World} {L : List K} {bb : Nat} (t : TabB w L bb) (hb : Below w.heap.size w w') : TabB w' L bb := ⟨fun i hi => (hb.cell (p := ⟨bb, i, none⟩) t.lb).trans (t.bel i hi), Nat.lt_of_lt_of_le t.lb hb.size⟩
theorem TabB.rd {w : World} {L : List K} {bb : Nat} (t : TabB w L bb) : Lst.Rd w (some ⟨bb, 0, none⟩) (belows L L.length) := .inr ⟨bb, rfl, fun j hj => by
 rw [Sg.belows_len] at hj
 rw [Sg.belows_get L L.length j hj]; exact t.bel j hj⟩
theorem allB (g off cap : Nat) (L : List K) (w : World) (hl : laceB L = true) (hN : 0 < L.length) (hr : RdK w (some ⟨g, off, none⟩) L) :
   Calls Tryz.prog 48 #[.slice (some ⟨g, off, none⟩) L.length cap] w fun e w' => ∃ bb bc, e = .returned (.slice (some ⟨bb, 0, none⟩) L.length bc) ∧ TabB w' L bb ∧ Below w.heap.size w w' := by
 have h60 := ((Lc.lace_iff L).1 hl).1
 refine (Sg.l4All (some ⟨g, off, none⟩) cap L w h60 (Sg.frm_lace hl) hr).mono ?_
 rintro e w1 ⟨bo, bc, rfl, hown, hb1⟩
 have hbl := Sg.belows_len L L.length
 rcases Lst.own_rd hown with e | ⟨bb, e, hcell⟩
 · rw [e] at hbl; simp at hbl; omega
 · subst e
   refine ⟨bb, bc, by rw [hbl], ⟨fun i hi => ?_, (World.ownsRow.lt hown bb rfl).2⟩, hb1⟩
   have := hcell i (by rw [hbl]; exact hi)
   rwa [Sg.belows_get L L.length i hi] at this
theorem allN (g off cap : Nat) (L : List K) (bb bc : Nat) (w : World) (hl : laceB L = true) (hr : RdK w (some ⟨g, off, none⟩) L) (ht : TabB w L bb) :
   Calls Tryz.prog 73 #[.slice (some ⟨g, off, none⟩) L.length cap, .slice (some ⟨bb, 0, none⟩) L.length bc] w fun e w' => ∃ nb, e = .returned (.slice (some ⟨nb, 0, none⟩) L.length L.length) ∧ w.heap.size ≤ nb ∧ TabsN w' L bb nb ∧ Below w.heap.size w w' := by
 have h60 := ((Lc.lace_iff L).1 hl).1
 have hbl := Sg.belows_len L L.length
 have h6 := Nd.l6All (some ⟨g, off, none⟩) cap L (some ⟨bb, 0, none⟩) bc (belows L L.length) w h60 hbl (Sg.belows_in L L.length h60) hr ht.rd (fun c e => by injection e with e; injection e with e; subst e; exact ht.lb)
 rw [hbl] at h6
 refine h6.mono ?_
 rintro e w2 ⟨h, D, O, rfl, hge, hrow, hD, hO, hb2⟩
 exact ⟨h, rfl, hge, ⟨(ht.below hb2).bel, fun i hi => by rw [← Nd.nodR_eq hl hD hi _ (Nat.le_refl _), ← hO i hi]; exact hrow.rd i hi, (ht.below hb2).lb, hrow.lt⟩, hb2⟩
structure TabsF (w : World) (L : List K) (bb h : Nat) : Prop extends Ch.TabsL w L bb h where
 fr : ∀ i, i < L.length → w.frozen? ⟨h, i, none⟩ = false
theorem allS (g off cap : Nat) (L : List K) (bb bc : Nat) (w : World) (hl : laceB L = true) (hr : RdK w (some ⟨g, off, none⟩) L) (ht : TabB w L bb) :
   Calls Tryz.prog 51 #[.slice (some ⟨g, off, none⟩) L.length cap, .slice (some ⟨bb, 0, none⟩) L.length bc] w fun e w' => ∃ h, e = .returned (.slice (some ⟨h, 0, none⟩) L.length L.length) ∧ TabsF w' L bb h ∧ Below w.heap.size w w' := by
 refine (Sl.l7All g off cap L (some ⟨bb, 0, none⟩) bc w hl hr ht.rd (fun g' e => by injection e with e; injection e with e; subst e; exact ht.lb)).mono ?_
 rintro e w2 ⟨h, O, rfl, _, hrow, hO, hb2⟩
 exact ⟨h, rfl, ⟨⟨(ht.below hb2).bel, fun i hi => by rw [← hO i hi]; exact hrow.rd i hi, (ht.below hb2).lb, hrow.lt⟩, hrow.fr⟩, hb2⟩
theorem chF_mem (L : List K) (C : List Int) : ∀ (f : Nat) (k x : Int), x ∈ Ch.chF L C f k → 0 ≤ x ∧ x ≤ k := by
 intro f
 induction f with
 | zero => intro k x h; simp [Ch.chF] at h
 | succ f ih =>
   intro k x h
   unfold Ch.chF at h
   by_cases hk : k < 0
   · rw [if_pos hk] at h; simp at h
   · rw [if_neg hk, List.mem_append] at h
     have hlt := Ch.earlier_lt L C k.toNat
     rcases h with h | h
     · have := ih _ _ h; omega
     · have : x = k := by simpa using h
       omega
theorem taleF_snoc (L : List K) : ∀ (l : List Int) (c e : Int), taleF L e (l ++ [c]) = taleF L e l ++ freshL L c (l.getLastD e) := by
 intro l
 induction l with
 | nil => intro c e; simp [taleF]
 | cons x l ih =>
   intro c e
   show freshL L x e ++ taleF L x (l ++ [c]) = (freshL L x e ++ taleF L x l) ++ freshL L c ((x :: l).getLastD e)
   rw [ih c x, List.getLastD_cons, List.append_assoc]
theorem fresh_len (L : List K) (k e : Int) : (freshL L k e).length ≤ 60 := by
 unfold freshL
 rw [ord_len]; exact Bit.memTo_le _ 60
structure TlSt (w w3 wr : World) (og0 og cp : Nat) (l : List Int) : Prop where
 own : wr.ownsRow w.heap.size 2 1 (.slice (some ⟨og, 0, none⟩) l.length cp) l.length (l.map (Value.int .i64))
 bel : Below w.heap.size w wr
 gr : w3.grownBy wr (some og0)
 at' : og = og0 ∨ w3.heap.size ≤ og
theorem TlSt.below {w w3 wr w' : World} {og0 og cp : Nat} {l : List Int} (s : TlSt w w3 wr og0 og cp l) (hb : Below wr.heap.size wr w') : TlSt w w3 w' og0 og cp l :=
 ⟨Fm.row_below s.own hb, s.bel.trans (hb.mono s.bel.size), World.grownBy.trans s.gr ⟨hb.os, hb.tape, hb.output, hb.size, fun i hi _ => hb.block i hi⟩, s.at'⟩
theorem TlSt.app {w w3 wr w1 : World} {og0 og cp : Nat} {l ns : List Int} {v' : Value} (s : TlSt w w3 wr og0 og cp l) (ho : w1.ownsRow w.heap.size 2 1 v' (l.length + ns.length) (l.map (Value.int .i64) ++ ns.map (Value.int .i64))) (hg : wr.grownBy w1 (some og)) (hn : ¬ v' = .slice none 0 0) (ha : v'.ownBlock = some og ∨ v'.ownBlock = some wr.heap.size) : ∃ g2 c2, v' = .slice (some ⟨g2, 0, none⟩) (l.length + ns.length) c2 ∧ TlSt w w3 w1 og0 g2 c2 (l ++ ns) := by
 have ho' := ho
 obtain ⟨_, ⟨hx, _⟩ | ⟨g2, c2, cur, hx, _⟩⟩ := ho'
 · exact absurd hx hn
 · subst hx
   have hlt := World.ownsRow.lt s.own og rfl
   refine ⟨g2, c2, rfl, by simpa using ho, s.bel.grown hg s.bel.size (fun k hk => by cases hk; exact hlt.1), ⟨hg.os.trans s.gr.os, hg.tape.trans s.gr.tape, hg.output.trans s.gr.output, Nat.le_trans s.gr.size hg.size, fun j hj hne => ?_⟩, ?_⟩
   · have h1 := s.gr.block j hj hne
     refine (hg.block j (Nat.lt_of_lt_of_le hj s.gr.size) (fun e => ?_)).trans h1
     injection e with e
     subst e
     rcases s.at' with q | q
     · exact hne (by rw [q])
     · omega
   · simp [Value.ownBlock] at ha
     rcases ha with e | e
     · subst e; exact s.at'
     · exact .inr (by have := s.gr.size; omega)
set_option maxHeartbeats 6400000 in
theorem l12Tale (g off cap : Nat) (L : List K) (ao : Option Addr) (cc : Nat) (C : List Int) (bb bc : Nat) (k : Nat) (w : World) (hl : laceB L = true) (hg : g < w.heap.size) (hr : RdK w (some ⟨g, off, none⟩) L) (hrd : Lst.Rd w ao C) (hao : ∀ c, ao = some ⟨c, 0, none⟩ → c < w.heap.size) (ht : TabB w L bb) (hk : k < L.length) :
   Calls Tryz.prog 52 #[.slice (some ⟨g, off, none⟩) L.length cap, .slice ao C.length cc, .slice (some ⟨bb, 0, none⟩) L.length bc, .int .i64 (k : Int)] w (NumsPost (taleL L C (k : Int)) w) := by
 obtain ⟨i0, hi, hz0, hz1, hz2⟩ := info_parts Memb.info2
 have h60 := ((Lc.lace_iff L).1 hl).1
 have HLC : Hid (laceB L = true) := hl
 have HR : Hid (∀ W : World, Below w.heap.size w W → RdK W (some ⟨g, off, none⟩) L) := fun W hW => hr.below hW
 have HT : Hid (∀ W : World, Below w.heap.size w W → TabB W L bb) := fun W hW => ht.below hW
 have HRD : Hid (∀ W : World, Below w.heap.size w W → Lst.Rd W ao C ∧ ∀ c, ao = some ⟨c, 0, none⟩ → c < W.heap.size) := fun W hW => ⟨Ch.rd_below hrd hao hW, fun c e => Nat.lt_of_lt_of_le (hao c e) hW.size⟩
 have HB0 : Hid (Below w.heap.size w (w.alloc (.cells #[] 2))) := (Below.refl _ _).alloc (Nat.le_refl _) _
 have HE0 : Hid ((w.alloc (.cells #[] 2)).ownsRow w.heap.size 2 1 (.slice (some ⟨w.heap.size, 0, none⟩) 0 0) 0 []) := Memb.own_empty w
 have hsz0 : w.heap.size < (w.alloc (.cells #[] 2)).heap.size := by simp
 clear hl hr hrd hao ht
 go_enter Tryz.func52, Tryz.ntmps52
 go_wp2_with fail
 generalize w.alloc (.cells #[] 2) = w0 at HB0 HE0 hsz0 ⊢
 refine (allN g off cap L bb bc w0 HLC.out (HR.out w0 HB0.out) (HT.out w0 HB0.out)).mono ?_
 rintro en w1 ⟨nb, rfl, hnb1, hT1, hb1⟩
 have HB1 : Hid (Below w.heap.size w w1) := HB0.out.trans (hb1.mono HB0.out.size)
 have HE1 : Hid (w1.ownsRow w.heap.size 2 1 (.slice (some ⟨w.heap.size, 0, none⟩) 0 0) 0 []) := Fm.row_below HE0.out hb1
 have hw01 := hb1.size
 have hn0 : nb ≠ w.heap.size := by omega
 clear hb1 HB0 HE0 hnb1
 go_wp2_with fail
 refine (allS g off cap L bb bc w1 HLC.out (HR.out w1 HB1.out) (HT.out w1 HB1.out)).mono ?_
 rintro en w2 ⟨h, rfl, hT2, hb2⟩
 have HB2 : Hid (Below w.heap.size w w2) := HB1.out.trans (hb2.mono HB1.out.size)
 have HE2 : Hid (w2.ownsRow w.heap.size 2 1 (.slice (some ⟨w.heap.size, 0, none⟩) 0 0) 0 []) := Fm.row_below HE1.out hb2
 have HN2 : Hid (TabsN w2 L bb nb) := hT1.below hb2
 have hw12 := hb2.size
 have hch := Ch.l10Chain g off cap L ao cc C bb bc h L.length k w2 HLC.out (Nat.lt_of_lt_of_le hg HB2.out.size) (HR.out w2 HB2.out) (HRD.out w2 HB2.out).1 (HRD.out w2 HB2.out).2 hT2.toTabsL hk
 clear hb2 HB1 HE1 hT1 hT2
 go_wp2_with fail
 refine hch.mono ?_
 rintro en w3 ⟨co, ccp, rfl, hoc, hb3⟩
 have HS3 : Hid (TlSt w w3 w3 w.heap.size w.heap.size 0 []) := ⟨Fm.row_below HE2.out hb3, HB2.out.trans (hb3.mono HB2.out.size), World.grownBy.refl _ _, .inl rfl⟩
 have HN3 : Hid (TabsN w3 L bb nb) := HN2.out.below hb3
 have hcl := Ch.chain_len L C (k : Int)
 have HCM : Hid (∀ x ∈ Ch.chainL L C (k : Int), 0 ≤ x ∧ x < (L.length : Int)) := fun x hx => by
   have := chF_mem L C _ _ _ hx
   omega
 have HTL : Hid (taleL L C (k : Int) = taleF L (-1) (Ch.chainL L C (k : Int))) := rfl
 have hcl2 : (Ch.chainL L C (k : Int)).length ≤ 60 := by omega
 have HCO : Hid (Ch.chainL L C (k : Int) = [] ∨ ∃ cb, co = some ⟨cb, 0, none⟩ ∧ cb ≠ w.heap.size ∧ cb < w3.heap.size ∧ ∀ j, j < (Ch.chainL L C (k : Int)).length → w3.cell? ⟨cb, j, none⟩ = some (.int .i64 ((Ch.chainL L C (k : Int)).getD j 0))) := by
   rcases Lst.own_rd hoc with e | ⟨cb, e, hc⟩
   · exact .inl e
   · subst e
     have := World.ownsRow.lt hoc cb rfl
     exact .inr ⟨cb, rfl, by omega, this.2, hc⟩
 clear hoc hb3 HB2 HE2 HN2 hch hcl
 generalize Ch.chainL L C (k : Int) = ch at HCM HTL hcl2 HCO ⊢
 go_wp2
 go_loopw [9, 11, 13] (fun v ev iv wr => ∃ (i og cp : Nat), i ≤ ch.length ∧ iv = .int .i64 (i : Int) ∧ ev = .int .i64 ((ch.take i).getLastD (-1)) ∧ v = .slice (some ⟨og, 0, none⟩) (taleF L (-1) (ch.take i)).length cp ∧ (taleF L (-1) (ch.take i)).length ≤ 60 * i ∧ Hid (TlSt w w3 wr w.heap.size og cp (taleF L (-1) (ch.take i)))) (fun _ _ iv _ => ch.length - (intOf iv).toNat)
 case atStart => exact ⟨0, w.heap.size, 0, by omega, rfl, rfl, rfl, by simp [taleF], HS3⟩
 case round =>
   obtain ⟨i, og, cp, hil, rfl, hev, hv, hln, HS⟩ := hrel
   clear HS3
   by_cases hlt : i < ch.length
   · subst hv hev
     have hii : (i : Int) < (ch.length : Int) := by omega
     rcases HCO.out with e | ⟨cb, rfl, hcb0, hcb3, hcc⟩
     · rw [e] at hlt; simp at hlt
     have HST : Hid (taleF L (-1) (ch.take (i + 1)) = taleF L (-1) (ch.take i) ++ freshL L (ch.getD i 0) ((ch.take i).getLastD (-1))) := by
       show _ = _; rw [Lc.take_snocI ch i hlt, taleF_snoc]
     have HLST : Hid ((ch.take (i + 1)).getLastD (-1) = ch.getD i 0) := by
       show _ = _; rw [Lc.take_snocI ch i hlt]; simp
     have hmem := HCM.out (ch.getD i 0) (by simp [List.getD, List.getElem?_eq_getElem hlt])
     have hlast : -1 ≤ (ch.take i).getLastD (-1) ∧ (ch.take i).getLastD (-1) < (L.length : Int) := by
       rcases hh : (ch.take i) with _ | ⟨y, ys⟩
       · simp; omega
       · have hm : (y :: ys).getLastD (-1) ∈ ch.take i := by rw [hh, List.getLastD_eq_getLast?, List.getLast?_eq_some_getLast (by simp)]; simp
         have := HCM.out _ (List.mem_of_mem_take hm)
         omega
     have cj := World.grownBy.cell HS.out.gr (hcc i hlt) (by intro q; injection q with q; exact hcb0 q)
     have HTN : Hid (TabsN wr L bb nb) := ⟨(HT.out wr HS.out.bel).bel, fun j hj => World.grownBy.cell HS.out.gr (HN3.out.nod j hj) (by intro q; injection q with q; exact hn0 q), (HT.out wr HS.out.bel).lb, Nat.lt_of_lt_of_le HN3.out.ln HS.out.gr.size⟩
     have hfl60 := fresh_len L (ch.getD i 0) ((ch.take i).getLastD (-1))
     generalize taleF L (-1) (ch.take i) = tl at HST HS hln ⊢
     have HFD : Hid (freshL L (ch.getD i 0) ((ch.take i).getLastD (-1)) = ordL L (memTo (frS L (ch.getD i 0).toNat ((ch.take i).getLastD (-1)) L.length) 60)) := rfl
     generalize (ch.take i).getLastD (-1) = el at HST hlast HFD hfl60 ⊢
     generalize ch.getD i 0 = cx at HST HLST hmem cj HFD hfl60
     obtain ⟨q, rfl⟩ := Int.eq_ofNat_of_zero_le hmem.1
     rw [Int.toNat_natCast] at HFD
     have hfr := l11Fresh bb bc nb L.length L q el wr HLC.out (by omega) hlast.1 hlast.2 HTN.out.bel HTN.out.nod
     have hfb := frS_bd L q el L.length h60
     have hor := l11Order g off cap L (frS L q el L.length) wr HLC.out (HR.out wr HS.out.bel) hfb.1 hfb.2 (frS_in h60 q el)
     rw [← HFD.out] at hor
     clear hcc HFD hfb HTN
     generalize frS L q el L.length = fr at hfr hor
     generalize freshL L (q : Int) el = fl at HST hor hfl60
     go_wp2_with fail
     refine hfr.mono ?_
     rintro en w5 ⟨rfl, rfl⟩
     clear hfr
     go_wp2_with fail
     refine hor.mono ?_
     rintro en w6 ⟨fo, fc, rfl, hof, hb6⟩
     have HS6 : Hid (TlSt w w3 w6 w.heap.size og cp tl) := HS.out.below hb6
     have cj6 := (hb6.cell (p := ⟨cb, i, none⟩) (Nat.lt_of_lt_of_le hcb3 HS.out.gr.size)).trans cj
     have hcb6 : cb < w6.heap.size := Nat.lt_of_lt_of_le (Nat.lt_of_lt_of_le hcb3 HS.out.gr.size) hb6.size
     have hogw := World.ownsRow.lt HS.out.own og rfl
     have hcog : cb ≠ og := by
       rcases HS.out.at' with q1 | q1
       · rw [q1]; exact hcb0
       · omega
     have HLN2 : Hid ((taleF L (-1) (ch.take (i + 1))).length ≤ 60 * (i + 1)) := by show _ ≤ _; rw [HST.out]; simp; omega
     have hwsz6 : w.heap.size ≤ w6.heap.size := HS6.out.bel.size
     clear hor hb6 cj HS
     cases fo with
     | none =>
       obtain ⟨_, ⟨hq, hq2⟩ | ⟨fb, fcap, cur, hq, _⟩⟩ := hof
       · injection hq with _ _ hq3
         subst hq3
         have hfn : fl = [] := List.eq_nil_of_length_eq_zero hq2
         subst hfn
         have HST2 : Hid (taleF L (-1) (ch.take (i + 1)) = tl) := by show _ = _; rw [HST.out, List.append_nil]
         have HSN : Hid (TlSt w w3 w6 w.heap.size og cp (taleF L (-1) (ch.take (i + 1)))) := by show TlSt _ _ _ _ _ _ _; rw [HST2.out]; exact HS6.out
         clear HST hq2
         go_wp2_with (first | (at_builtin; refine wpList_append_own_none rfl _ _ 23 rfl w.heap.size 2 i0 1 Tryz.underlying23 hi (.slice (some ⟨og, 0, none⟩) tl.length cp) tl.length (tl.map (Value.int .i64)) (by first | rfl | simp [Act.eval]) HS6.out.own (by first | rfl | simp [Act.eval]) ?_) | fail)
         go_wp2
         go_roundw
         case rel => exact ⟨i + 1, og, cp, by omega, by go_num, by rw [HLST.out], by rw [HST2.out], HLN2.out, HSN⟩
         case measure => simp [intOf]; omega
       · injection hq with hq _ _
         exact absurd hq (by simp)
     | some fa =>
       obtain ⟨fb, hfa, hfcell, hfb6⟩ : ∃ fb, fa = ⟨fb, 0, none⟩ ∧ (∀ j, j < fl.length → w6.cell? ⟨fb, j, none⟩ = some (.int .i64 (fl.getD j 0))) ∧ fb < w6.heap.size := by
         have hrdf := Lst.own_rd hof
         have hltf := World.ownsRow.lt hof fa.block rfl
         obtain ⟨_, ⟨hq, _⟩ | ⟨fb, fcap, cur, hq, _⟩⟩ := hof
         · injection hq with hq _ _
           exact absurd hq (by simp)
         · injection hq with hq _ _
           injection hq with hq
           subst hq
           refine ⟨fb, rfl, fun j hj => ?_, hltf.2⟩
           rcases hrdf with e | ⟨g5, e, hc5⟩
           · rw [e] at hj; simp at hj
           · injection e with e; injection e with e; subst e; exact hc5 j hj
       subst hfa
       have HNEW : Hid (∀ (j : Nat) u, (fl.map (Value.int .i64))[j]? = some u → w6.cell? ((⟨fb, 0, none⟩ : Addr).add j) = some u) := fun j u hu => by
         rw [List.getElem?_map] at hu
         rcases hj : fl[j]? with _ | y
         · rw [hj] at hu; simp at hu
         · rw [hj] at hu
           simp at hu
           subst hu
           have hjl : j < fl.length := (List.getElem?_eq_some_iff.1 hj).1
           have := hfcell j hjl
           rw [show fl.getD j 0 = y by simp [List.getD, hj]] at this
           rw [show (⟨fb, 0, none⟩ : Addr).add j = ⟨fb, j, none⟩ by simp [Addr.add]; intro e; exact e.symm]
           exact this
       have HONE : Hid (∀ u ∈ fl.map (Value.int .i64), u.oneCell' = true) := fun u hu => by
         obtain ⟨y, _, rfl⟩ := List.mem_map.1 hu; rfl
       clear hof hfcell
       go_wp2_with (first | (at_builtin; refine wpList_append_own_at _ rfl _ _ 23 rfl w.heap.size 2 i0 (.int .i64 0) 1 8 Tryz.underlying23 hi hz0 hz1 hz2 rfl (by decide) (.slice (some ⟨og, 0, none⟩) tl.length cp) tl.length (tl.map (Value.int .i64)) (by first | rfl | simp [Act.eval]) HS6.out.own ⟨fb, 0, none⟩ fl.length fc (fl.map (Value.int .i64)) (by first | rfl | simp [Act.eval]) (by simp) HNEW.out HONE.out ?c3 ?c4 ?c5 ?_) | fail)
       case c3 => unfold maxLen; omega
       case c4 => omega
       case c5 => exact hwsz6
       intro v' w7 hown' hgrow hnil hat
       obtain ⟨g2, c2, rfl, hS7⟩ := HS6.out.app hown' hgrow (by first | exact hnil | exact fun e => by have := hnil.1 e; simp at this) (by simpa [Value.ownBlock] using hat)
       have cj7 := World.grownBy.cell hgrow cj6 (by intro q1; injection q1 with q1; exact hcog q1)
       have HSN : Hid (TlSt w w3 w7 w.heap.size g2 c2 (taleF L (-1) (ch.take (i + 1)))) := by show TlSt _ _ _ _ _ _ _; rw [HST.out]; exact hS7
       have HLE : Hid ((taleF L (-1) (ch.take (i + 1))).length = tl.length + fl.length) := by show _ = _; rw [HST.out]; simp
       clear hown' hgrow hnil hat HS6 HNEW HONE hS7 cj6 HST
       go_wp2
       go_roundw
       case rel => exact ⟨i + 1, g2, c2, by omega, by go_num, by rw [HLST.out], by rw [HLE.out], HLN2.out, HSN⟩
       case measure => simp [intOf]; omega
   · obtain rfl : i = ch.length := by omega
     have e : ch.take ch.length = ch := List.take_length
     rw [e] at HS hv
     have HV : Hid (u9 = .slice (some ⟨og, 0, none⟩) (taleF L (-1) ch).length cp) := hv
     have HF : Hid (Memb.Own w.heap.size wr (some ⟨og, 0, none⟩) cp (taleF L (-1) ch) ∧ Below w.heap.size w wr) := ⟨HS.out.own, HS.out.bel⟩
     clear hv HS e hln hev
     go_wp2
     go_ret
     exact ⟨some ⟨og, 0, none⟩, cp, by rw [HTL.out, ← HV.out]; rfl, by rw [HTL.out]; exact HF.out.1, HF.out.2⟩
def taleI (L : List K) (C : List Int) (k : Int) : List Int := if Ch.onB L C k then taleL L C k else []
def outI (L : List K) (C : List Int) (s : Int) : List Int := if Fm.rightB L C s then outL L C s else []
theorem out_none {L : List K} {C : List Int} {s : Int} (h : lastT L (firmL L C s L.length) < 0) : outL L C s = [] := by unfold outL; rw [if_pos h]
theorem out_some {L : List K} {C : List Int} {s : Int} (h : ¬ lastT L (firmL L C s L.length) < 0) : outL L C s = taleL L C (lastT L (firmL L C s L.length)) := by unfold outL; rw [if_neg h]
set_option maxHeartbeats 1600000 in
theorem l12Out (g off cap : Nat) (L : List K) (ao : Option Addr) (cc : Nat) (C : List Int) (s : Int) (w : World) (hl : laceB L = true) (hN : 0 < L.length) (hg : g < w.heap.size) (hr : RdK w (some ⟨g, off, none⟩) L) (hrd : Lst.Rd w ao C) (hao : ∀ c, ao = some ⟨c, 0, none⟩ → c < w.heap.size) (h0 : 0 ≤ s) (h1 : s < 1152921504606846976) :
   Calls Tryz.prog 27 #[.slice (some ⟨g, off, none⟩) L.length cap, .slice ao C.length cc, .int .i64 s] w (NumsPost (outL L C s) w) := by
 have h60 := ((Lc.lace_iff L).1 hl).1
 have HLC : Hid (laceB L = true) := hl
 have HRD : Hid (∀ W : World, Below w.heap.size w W → Lst.Rd W ao C ∧ ∀ c, ao = some ⟨c, 0, none⟩ → c < W.heap.size) := fun W hW => ⟨Ch.rd_below hrd hao hW, fun c e => Nat.lt_of_lt_of_le (hao c e) hW.size⟩
 have HR : Hid (RdK w (some ⟨g, off, none⟩) L) := hr
 clear hl hrd hao hr
 go_enter Tryz.func27, Tryz.ntmps27
 go_wp2_with fail
 refine (allB g off cap L _ HLC.out hN HR.out).mono ?_
 rintro e w1 ⟨bb, bc, rfl, hT1, hb1⟩
 go_wp2_with fail
 refine (allS g off cap L bb bc w1 HLC.out (HR.out.below hb1) hT1).mono ?_
 rintro e w2 ⟨h, rfl, hT2, hb2⟩
 have hB2 := hb1.trans (hb2.mono hb1.size)
 have HT2 : Hid (TabB w2 L bb) := hT1.below hb2
 have hfm := Fm.l9Firm g off cap L ao cc C h (fun i => Sl.sealS L i L.length) s w2 HLC.out (HR.out.below hB2) (Nat.lt_of_lt_of_le hg hB2.size) (HRD.out w2 hB2).1 (HRD.out w2 hB2).2 ⟨hT2.lh, hT2.sl, hT2.fr⟩ (fun _ _ => rfl) h0 h1
 clear hb1 hb2 hT1 hT2
 go_wp2_with fail
 refine hfm.mono ?_
 rintro e w3 ⟨fo, fc, rfl, hof, hb3⟩
 have HB3 : Hid (Below w.heap.size w w3) := hB2.trans (hb3.mono hB2.size)
 have HT3 : Hid (TabB w3 L bb) := HT2.out.below hb3
 have hla := Fm.l9Last g off cap L fo fc (firmL L C s L.length) w3 (fun x hx => by obtain ⟨k, rfl, hk, _⟩ := (mem_firm L C s L.length x).1 hx; omega) (by have := Fm.firmL_len L C s L.length; omega) (HR.out.below HB3.out) (Lst.own_rd hof)
 have HLS : Hid ((lastT L (firmL L C s L.length) < 0 ∧ outL L C s = []) ∨ ∃ f : Nat, lastT L (firmL L C s L.length) = (f : Int) ∧ f < L.length ∧ outL L C s = taleL L C (f : Int)) := by
   rcases last_spec L C s L.length with ⟨q, _⟩ | ⟨f, q, hf, _⟩
   · exact .inl ⟨by rw [q]; omega, out_none (by rw [q]; omega)⟩
   · exact .inr ⟨f, q, hf, by rw [out_some (by rw [q]; omega), q]⟩
 clear hfm hof hb3 hB2 HT2
 generalize firmL L C s L.length = fl at hla HLS ⊢
 generalize lastT L fl = lt at hla HLS
 go_wp2_with fail
 refine hla.mono ?_
 rintro e w4 ⟨rfl, n4, rfl⟩
 have HB4 : Hid (Below w.heap.size w (w3.drewN n4)) := Db.below_drewN HB3.out n4
 have HT4 : Hid (TabB (w3.drewN n4) L bb) := HT3.out.below (Db.below_drewN (Below.refl _ w3) n4)
 clear hla HB3 HT3
 generalize w3.drewN n4 = V at HB4 HT4 ⊢
 rcases HLS.out with ⟨hneg, ho⟩ | ⟨f, rfl, hf, ho⟩
 · have HO : Hid (outL L C s = []) := ho
   have HP : Hid _ := Ch.nums_nil HB4.out
   clear ho HLS
   go_wp2
   go_ret
   rw [HO.out]
   exact ⟨some ⟨V.heap.size, 0, none⟩, 0, rfl, HP.out.1, HP.out.2⟩
 · have HO : Hid (outL L C s = taleL L C (f : Int)) := ho
   have hf0 : ¬ (f : Int) < 0 := by omega
   have hE := l12Tale g off cap L ao cc C bb bc f V HLC.out (Nat.lt_of_lt_of_le hg HB4.out.size) (HR.out.below HB4.out) (HRD.out V HB4.out).1 (HRD.out V HB4.out).2 HT4.out hf
   clear ho HLS
   go_wp2_with fail
   refine hE.mono ?_
   rintro e w5 ⟨ro, rc, rfl, hown, hb5⟩
   have HP : Hid (Memb.Own w.heap.size w5 ro rc (taleL L C (f : Int)) ∧ Below w.heap.size w w5) := ⟨Ch.own_base hown HB4.out.size, HB4.out.trans (hb5.mono HB4.out.size)⟩
   clear hE hb5 hown HB4
   go_wp2
   go_ret
   rw [HO.out]
   exact ⟨ro, rc, rfl, HP.out.1, HP.out.2⟩
end Tl
namespace Cur
theorem grownBy_trans {a b d : World} {r : Option Nat} (h : a.grownBy b r) (k : b.grownBy d r) : a.grownBy d r where
 os := k.os.trans h.os
 tape := k.tape.trans h.tape
 output := k.output.trans h.output
 size := Nat.le_trans h.size k.size
 block := fun j hj hne => (k.block j (Nat.lt_of_lt_of_le hj h.size) hne).trans (h.block j hj hne)
theorem grownBy_set {a b : World} {c : Nat} (h : a.grownBy b (some c)) (j : Nat) (u : Value) : a.grownBy (b.setCell ⟨c, j, none⟩ u) (some c) where
 os := h.os
 tape := h.tape
 output := h.output
 size := by simpa using h.size
 block := fun k hk hne => (heap_setCell_other b ⟨c, j, none⟩ k u (fun e => hne (by simp [e]))).trans (h.block k hk hne)
end Cur
namespace Lsx
open Memb (Own)
open Lst (Rd own_block own_rd own_below)
def marks (k : Int) (n : Nat) : List Int := (List.range n).map fun i : Nat => k + (i : Int)
theorem marks_length (k : Int) (n : Nat) : (marks k n).length = n := by simp [marks]
theorem marks_get (k : Int) (n j : Nat) (h : j < n) : (marks k n).getD j 0 = k + (j : Int) := by simp [marks, h]
set_option maxHeartbeats 400000 in
theorem held (k0 : Int) (n : Nat) (ao : Option Addr) (cap : Nat) (w : World) (hk : 0 ≤ k0) (hk' : k0 ≤ 1048576) (hn : n ≤ 1048576) (h : Rd w ao (marks k0 n)) :
   Calls Tryz.prog 15 #[.slice ao n cap, .int .i64 k0] w fun e w' => e = .returned (.int .i64 (k0 + (n : Int))) ∧ w = w' := by
 go_enter Tryz.func15, Tryz.ntmps15
 go_wp2
 go_loop [1, 5] (fun q i => ∃ k : Nat, k ≤ n ∧ i = .int .i64 k ∧ q = .int .i64 (k0 + (k : Int))) (fun _ i => n - (intOf i).toNat)
 case atStart => exact ⟨0, by omega, rfl, by simp⟩
 case round =>
   obtain ⟨k, hkn, rfl, rfl⟩ := hrel
   by_cases hlt : k < n
   · rcases h with h | ⟨g, rfl, hc⟩
     · exfalso; have := marks_length k0 n; rw [h] at this; simp at this; omega
     · have hck := hc k (by rw [marks_length]; exact hlt)
       rw [marks_get k0 n k hlt] at hck
       clear hc
       go_wp2
       go_round
       case rel => exact ⟨k + 1, by omega, by go_num, by go_num⟩
       case measure => simp [intOf]; omega
   · obtain rfl : k = n := by omega
     go_wp2
     go_ret
     exact ⟨rfl, rfl⟩
set_option maxHeartbeats 800000 in
theorem alike (l : List Int) (a b : Option Addr) (ca cb : Nat) (w : World) (hn : l.length ≤ 1048576) (ha : Rd w a l) (hb : Rd w b l) :
   Calls Tryz.prog 11 #[.slice a l.length ca, .slice b l.length cb] w fun e w' => e = .returned (.bool true) ∧ ∃ n, w' = w.drewN n := by
 go_enter Tryz.func11, Tryz.ntmps11
 go_wp2
 go_loopw [5] (fun i wr => ∃ k n : Nat, k ≤ l.length ∧ i = .int .i64 k ∧ wr = w.drewN n) (fun i _ => l.length - (intOf i).toNat)
 case atStart => exact ⟨0, 0, by omega, rfl, rfl⟩
 case round =>
   obtain ⟨k, n, hkn, rfl, rfl⟩ := hrel
   by_cases hlt : k < l.length
   · rcases ha with h | ⟨g, rfl, hc⟩
     · exfalso; rw [h] at hlt; simp at hlt
     · rcases hb with h | ⟨g', rfl, hc'⟩
       · exfalso; rw [h] at hlt; simp at hlt
       · have h1 := hc k hlt
         have h2 := hc' k hlt
         clear hc hc'
         generalize l.getD k 0 = x at h1 h2
         go_wp2_with fail
         go_quiet (fail)
         go_wp2
         go_roundw
         case rel => exact ⟨k + 1, _, by omega, by go_num, rfl⟩
         case measure => simp [intOf]; omega
   · go_wp2
     go_ret
     exact ⟨rfl, n, rfl⟩
def part (k0 : Int) (l : List Int) (k : Nat) : List Int := marks k0 k ++ l.drop k
theorem part_zero (k0 : Int) (l : List Int) : part k0 l 0 = l := by simp [part, marks]
theorem part_all (k0 : Int) (l : List Int) : part k0 l l.length = marks k0 l.length := by simp [part]
theorem part_get (k0 : Int) (l : List Int) (k : Nat) (h : k < l.length) : (part k0 l k)[k]? = some (l.getD k 0) := by
 unfold part
 rw [List.getElem?_append_right (by rw [marks_length]; omega), marks_length]
 simp [h]
theorem marks_succ (k0 : Int) (k : Nat) : marks k0 (k + 1) = marks k0 k ++ [k0 + (k : Int)] := by simp [marks, List.range_succ]
theorem part_set (k0 : Int) (l : List Int) (k : Nat) (h : k < l.length) : (part k0 l k).set k (k0 + (k : Int)) = part k0 l (k + 1) := by
 unfold part
 rw [List.set_append, if_neg (by rw [marks_length]; omega), marks_length, Nat.sub_self, List.drop_eq_getElem_cons h, List.set_cons_zero, marks_succ, List.append_assoc]
 rfl
theorem stored {B g cap n : Nat} {k0 : Int} {l : List Int} {k : Nat} {w wr : World} (hk : k < l.length) (hg : B ≤ g)
   (hown : wr.ownsRow B 2 1 (.slice (some ⟨g, 0, none⟩) n cap) n ((part k0 l k).map (Value.int .i64))) (hb : Below B w wr) :
   (wr.setCell ⟨g, k, none⟩ (.int .i64 (k0 + (k : Int)))).ownsRow B 2 1 (.slice (some ⟨g, 0, none⟩) n cap) n ((part k0 l (k + 1)).map (Value.int .i64)) ∧ Below B w (wr.setCell ⟨g, k, none⟩ (.int .i64 (k0 + (k : Int)))) := by
 refine ⟨?_, hb.setCell hg _⟩
 have := (World.ownsRow.stored hown k (.int .i64 (k0 + (k : Int)))).1
 rw [← List.map_set, part_set k0 l k hk] at this
 exact this
set_option maxHeartbeats 800000 in
theorem mark (k0 : Int) (l : List Int) (ao : Option Addr) (cap B : Nat) (w : World) (hk : 0 ≤ k0) (hk' : k0 ≤ 1048576) (hn : l.length ≤ 1048576) (h : Own B w ao cap l) :
   Calls Tryz.prog 14 #[.slice ao l.length cap, .int .i64 k0] w fun e w' => e = .returned (.int .i64 (k0 + (l.length : Int))) ∧ Own B w' ao cap (marks k0 l.length) ∧ Below B w w' := by
 by_cases hl : l = []
 · subst hl
   go_enter Tryz.func14, Tryz.ntmps14
   go_wp2
   refine wp_loop_rounds 1 ?_
   rw [rounds_succ]
   go_wp2
   go_ret
   exact ⟨by simp, h, Below.refl _ _⟩
 · obtain ⟨g, rfl, hg, _⟩ := own_block h hl
   obtain ⟨n, hnl⟩ : ∃ n, n = l.length := ⟨_, rfl⟩
   have HN : Hid (n = l.length) := hnl
   have hn' : n ≤ 1048576 := by omega
   rw [← hnl]
   have h0 : w.ownsRow B 2 1 (.slice (some ⟨g, 0, none⟩) n cap) n ((part k0 l 0).map (Value.int .i64)) := by
     rw [part_zero, hnl]; exact h
   clear hnl h hn
   go_enter Tryz.func14, Tryz.ntmps14
   go_wp2
   go_loopw [1, 5] (fun q i wr => ∃ k : Nat, k ≤ n ∧ i = .int .i64 k ∧ q = .int .i64 (k0 + (k : Int)) ∧ wr.ownsRow B 2 1 (.slice (some ⟨g, 0, none⟩) n cap) n ((part k0 l k).map (Value.int .i64)) ∧ Below B w wr) (fun _ i _ => n - (intOf i).toNat)
   case atStart => exact ⟨0, by omega, rfl, by simp, h0, Below.refl _ _⟩
   case round =>
     obtain ⟨k, hkn, rfl, rfl, hown, hb⟩ := hrel
     by_cases hlt : k < n
     · have hkl : k < l.length := by rw [← HN.out]; exact hlt
       have hc := World.ownsRow.cellAt hown k (by omega)
       rw [List.getElem?_map, part_get k0 l k hkl] at hc
       simp only [Option.map_some] at hc
       have hf := World.ownsRow.frozenAt hown k
       have R := stored hkl hg hown hb
       have HR : Hid _ := R
       clear R hown
       go_wp2
       go_roundw
       case rel => exact ⟨k + 1, by omega, by go_num, by go_num, HR.out.1, HR.out.2⟩
       case measure => simp [intOf]; omega
     · obtain rfl : k = n := by omega
       go_wp2
       go_ret
       refine ⟨rfl, ?_, hb⟩
       have e : part k0 l k = marks k0 k := by rw [HN.out]; exact part_all k0 l
       rw [e] at hown
       unfold Own
       rw [marks_length]
       exact hown
end Lsx
namespace Nu
open Kn (K)
open Db (RowI)
def RdI (w : World) (ao : Option Addr) (C : List Int) : Prop := C = [] ∨ ∃ g off, ao = some ⟨g, off, none⟩ ∧ g < w.heap.size ∧ ∀ j, j < C.length → w.cell? ⟨g, off + j, none⟩ = some (.int .i64 (C.getD j 0))
theorem RdI.below {w w' : World} {ao : Option Addr} {C : List Int} (h : RdI w ao C) (hb : Below w.heap.size w w') : RdI w' ao C := by
 rcases h with h | ⟨g, off, e, hg, hc⟩
 · exact .inl h
 · exact .inr ⟨g, off, e, Nat.lt_of_lt_of_le hg hb.size, fun j hj => (hb.cell (p := ⟨g, off + j, none⟩) hg).trans (hc j hj)⟩
theorem row_below {w w' : World} {b n : Nat} {D : Nat → Int} (h : RowI w b n D) (hb : Below w.heap.size w w') : RowI w' b n D :=
 ⟨Nat.lt_of_lt_of_le h.lt hb.size, fun i hi => (hb.cell (p := ⟨b, i, none⟩) h.lt).trans (h.rd i hi), fun i hi => (hb.frozen (p := ⟨b, i, none⟩) h.lt).trans (h.fr i hi)⟩
theorem row_grown {w w' : World} {b q n : Nat} {D : Nat → Int} (h : RowI w b n D) (hg : w.grownBy w' (some q)) (hne : b ≠ q) : RowI w' b n D := by
 have hk := hg.block b h.lt (fun e => hne (by cases e; rfl))
 exact ⟨Nat.lt_of_lt_of_le h.lt hg.size, fun i hi => (World.cell?_of_block (a := ⟨b, i, none⟩) hk).trans (h.rd i hi), fun i hi => (World.frozen?_of_block (a := ⟨b, i, none⟩) hk).trans (h.fr i hi)⟩
theorem row_rd {w : World} {b : Nat} {C : List Int} (h : RowI w b C.length (fun i => C.getD i 0)) : Lst.Rd w (some ⟨b, 0, none⟩) C := .inr ⟨b, rfl, h.rd⟩
theorem row_eq {w : World} {b n : Nat} {D E : Nat → Int} (h : RowI w b n D) (e : ∀ i, i < n → D i = E i) : RowI w b n E := ⟨h.lt, fun i hi => by rw [← e i hi]; exact h.rd i hi, h.fr⟩
def ToPost (C : List Int) (w : World) (e : Ending) (w' : World) : Prop := e = .returned (.slice (some ⟨w.heap.size, 0, none⟩) C.length C.length) ∧ RowI w' w.heap.size C.length (fun i => C.getD i 0) ∧ Below w.heap.size w w'
def soFar (C : List Int) (j i : Nat) : Int := if i < j then C.getD i 0 else 0
set_option maxHeartbeats 1600000 in
theorem toInts (ao : Option Addr) (cap : Nat) (C : List Int) (w : World) (hl : C.length ≤ 1048576) (hr : RdI w ao C) :
   Calls Tryz.prog 9 #[.slice ao C.length cap] w (ToPost C w) := by
 have hmk : ∀ W : World, (Instr.makeSlice 23 (.int .i64 (C.length : Int)) (.int .i64 (C.length : Int))).run Tryz.prog W = .ok (.slice (some ⟨W.heap.size, 0, none⟩) C.length C.length) (W.alloc (.cells (madeCells #[.int .i64 0] C.length) 2)) :=
   fun W => run_make_row' (P := Tryz.prog) 23 2 (.int .i64 0) 8 Tryz.underlying23 Memb.info2 rfl .i64 .i64 C.length (by omega) (by omega) W
 have HP : Hid (RowI (w.alloc (.cells (madeCells #[.int .i64 0] C.length) 2)) w.heap.size C.length (fun _ => 0) ∧ Below w.heap.size w (w.alloc (.cells (madeCells #[.int .i64 0] C.length) 2))) := ⟨Db.rowI_made _ _ _, (Below.refl _ _).alloc (Nat.le_refl _) _⟩
 generalize madeCells #[Value.int .i64 0] C.length = mc at hmk HP
 go_enter Tryz.func9, Tryz.ntmps9
 go_wp2
 clear hmk
 go_loopw [4] (fun i wr => ∃ j : Nat, j ≤ C.length ∧ i = .int .i64 j ∧ Hid (RowI wr w.heap.size C.length (soFar C j)) ∧ Hid (Below w.heap.size w wr)) (fun i _ => C.length - (intOf i).toNat)
 case atStart => exact ⟨0, by omega, rfl, row_eq HP.out.1 (fun i _ => by unfold soFar; rw [if_neg (by omega)]), HP.out.2⟩
 case round =>
   obtain ⟨j, hj, rfl, HR, HB⟩ := hrel
   by_cases hlt : j < C.length
   · rcases hr with h | ⟨g, off, rfl, hg, hc⟩
     · exfalso; rw [h] at hlt; simp at hlt
     have cj := (HB.out.cell (p := ⟨g, off + j, none⟩) hg).trans (hc j hlt)
     have dj := HR.out.rd j hlt
     have fj := HR.out.fr j hlt
     have hbs := HR.out.lt
     have hgr : g < wr.heap.size := Nat.lt_of_lt_of_le hg HB.out.size
     have HR1 : Hid (RowI (wr.setCell ⟨w.heap.size, j, none⟩ (.int .i64 (C.getD j 0))) w.heap.size C.length (soFar C (j + 1))) := row_eq (HR.out.put j hlt (C.getD j 0)) (fun i _ => by
       unfold soFar
       by_cases e : i = j
       · subst e; rw [if_pos rfl, if_pos (by omega)]
       · rw [if_neg e]
         by_cases q : i < j
         · rw [if_pos q, if_pos (by omega)]
         · rw [if_neg q, if_neg (by omega)])
     have HB1 : Hid (Below w.heap.size w (wr.setCell ⟨w.heap.size, j, none⟩ (.int .i64 (C.getD j 0)))) := HB.out.setCell (p := ⟨w.heap.size, j, none⟩) (Nat.le_refl _) _
     generalize C.getD j 0 = x at cj HR1 HB1
     generalize soFar C j j = y at dj
     clear HR HB hc
     go_wp2
     go_roundw
     case rel => exact ⟨j + 1, by omega, by go_num, HR1, HB1⟩
     case measure => simp [intOf]; omega
   · obtain rfl : j = C.length := by omega
     have HR2 : Hid (RowI wr w.heap.size C.length (fun i => C.getD i 0)) := row_eq HR.out (fun i hi => by unfold soFar; rw [if_pos hi])
     clear HR
     go_wp2
     go_ret
     exact ⟨rfl, HR2.out, HB.out⟩
theorem below_drewN {b : Nat} {a w : World} (h : Below b a w) (n : Nat) : Below b a (w.drewN n) := ⟨h.os, h.tape, h.output, h.size, h.block⟩
theorem alikeB (l : List Int) (a b : Option Addr) (ca cb : Nat) (w : World) (hn : l.length ≤ 1048576) (ha : Lst.Rd w a l) (hb : Lst.Rd w b l) :
   Calls Tryz.prog 11 #[.slice a l.length ca, .slice b l.length cb] w fun e w' => e = .returned (.bool true) ∧ Below w.heap.size w w' := by
 refine (Lsx.alike l a b ca cb w hn ha hb).mono ?_
 rintro e w' ⟨h, n, rfl⟩
 exact ⟨h, below_drewN (Below.refl _ _) n⟩
theorem own_rd {B : Nat} {w : World} {ao : Option Addr} {cap : Nat} {l : List Int} (h : Memb.Own B w ao cap l) : Lst.Rd w ao l := Lst.own_rd h
theorem own_below {B : Nat} {w w' : World} {ao : Option Addr} {cap : Nat} {l : List Int} (h : Memb.Own B w ao cap l) (hb : Below w.heap.size w w') : Memb.Own B w' ao cap l := Lst.own_below h hb
theorem own_grown {B q : Nat} {w w' : World} {ao : Option Addr} {cap : Nat} {l : List Int} (h : Memb.Own B w ao cap l) (hg : w.grownBy w' (some q)) (hne : ∀ g, ao = some ⟨g, 0, none⟩ → g ≠ q) : Memb.Own B w' ao cap l := by
 have hlt := World.ownsRow.lt h
 unfold Memb.Own at *
 obtain ⟨h1, h2⟩ := h
 refine ⟨h1, ?_⟩
 rcases h2 with h2 | ⟨g, cap', cur, hv, hB, hc, rest⟩
 · exact .inl h2
 · refine .inr ⟨g, cap', cur, hv, hB, ?_, rest⟩
   simp only [Value.slice.injEq] at hv
   obtain ⟨rfl, _, _⟩ := hv
   rw [hg.block g (hlt g rfl).2 (fun e => hne g rfl (by cases e; rfl))]; exact hc
theorem own_far {B : Nat} {w : World} {ao : Option Addr} {cap : Nat} {l : List Int} (h : Memb.Own B w ao cap l) : ∀ g, ao = some ⟨g, 0, none⟩ → B ≤ g ∧ g < w.heap.size := fun g e => by
 subst e; exact World.ownsRow.lt h g rfl
theorem own_low {B n : Nat} {w w' : World} {ao : Option Addr} {cap : Nat} {l : List Int} (h : Memb.Own B w ao cap l) (hf : ∀ g, ao = some ⟨g, 0, none⟩ → g < n) (hb : Below n w w') : Memb.Own B w' ao cap l := by
 have hlt := World.ownsRow.lt h
 unfold Memb.Own at *
 obtain ⟨h1, h2⟩ := h
 refine ⟨h1, ?_⟩
 rcases h2 with h2 | ⟨g, cap', cur, hv, hB, hc, rest⟩
 · exact .inl h2
 · refine .inr ⟨g, cap', cur, hv, hB, ?_, rest⟩
   simp only [Value.slice.injEq] at hv
   obtain ⟨rfl, _, _⟩ := hv
   rw [hb.block g (hf g rfl)]; exact hc
theorem own_base {B B' : Nat} {w : World} {ao : Option Addr} {cap : Nat} {l : List Int} (h : Memb.Own B w ao cap l) (hB : B' ≤ B) : Memb.Own B' w ao cap l := by
 obtain ⟨h1, h2 | ⟨g, cp, cur, e, hg, r⟩⟩ := h
 · exact ⟨h1, .inl h2⟩
 · exact ⟨h1, .inr ⟨g, cp, cur, e, Nat.le_trans hB hg, r⟩⟩
theorem at_block {q : Nat} {w : World} (h : q < w.heap.size) : ∀ c, some (⟨q, 0, none⟩ : Addr) = some ⟨c, 0, none⟩ → c < w.heap.size := fun c e => by injection e with e; injection e with e; subst e; exact h
def MarkPost (b n : Nat) (k0 : Int) (w : World) (e : Ending) (w' : World) : Prop := e = .returned (.int .i64 (k0 + (n : Int))) ∧ RowI w' b n (fun i => k0 + (i : Int)) ∧ w.grownBy w' (some b)
def markD (D : Nat → Int) (k0 : Int) (j i : Nat) : Int := if i < j then k0 + (i : Int) else D i
set_option maxHeartbeats 1600000 in
theorem markInts (b n cap : Nat) (D : Nat → Int) (k0 : Int) (w : World) (hn : n ≤ 1048576) (hk0 : 0 ≤ k0) (hk1 : k0 ≤ 1000000000) (hr : RowI w b n D) :
   Calls Tryz.prog 14 #[.slice (some ⟨b, 0, none⟩) n cap, .int .i64 k0] w (MarkPost b n k0 w) := by
 have HR0 : Hid (RowI w b n D) := hr
 clear hr
 go_enter Tryz.func14, Tryz.ntmps14
 go_wp2
 go_loopw [1, 5] (fun q i wr => ∃ j : Nat, j ≤ n ∧ i = .int .i64 j ∧ q = .int .i64 (k0 + (j : Int)) ∧ Hid (RowI wr b n (markD D k0 j)) ∧ Hid (w.grownBy wr (some b))) (fun _ i _ => n - (intOf i).toNat)
 case atStart => exact ⟨0, by omega, rfl, by simp, row_eq HR0.out (fun i _ => by unfold markD; rw [if_neg (by omega)]), World.grownBy.refl _ _⟩
 case round =>
   obtain ⟨j, hj, rfl, rfl, HR, HG⟩ := hrel
   by_cases hlt : j < n
   · have dj := HR.out.rd j hlt
     have fj := HR.out.fr j hlt
     have HR1 : Hid (RowI (wr.setCell ⟨b, j, none⟩ (.int .i64 (k0 + (j : Int)))) b n (markD D k0 (j + 1))) := row_eq (HR.out.put j hlt (k0 + (j : Int))) (fun i _ => by
       unfold markD
       by_cases e : i = j
       · subst e; rw [if_pos rfl, if_pos (by omega)]
       · rw [if_neg e]
         by_cases q : i < j
         · rw [if_pos q, if_pos (by omega)]
         · rw [if_neg q, if_neg (by omega)])
     have HG1 : Hid (w.grownBy (wr.setCell ⟨b, j, none⟩ (.int .i64 (k0 + (j : Int)))) (some b)) := Cur.grownBy_set HG.out _ _
     generalize markD D k0 j j = y at dj
     clear HR HG
     go_wp2
     go_roundw
     case rel => exact ⟨j + 1, by omega, by go_num, by go_num, HR1, HG1⟩
     case measure => simp [intOf]; omega
   · obtain rfl : j = n := by omega
     have HR2 : Hid (RowI wr b j (fun i => k0 + (i : Int))) := row_eq HR.out (fun i hi => by unfold markD; rw [if_pos hi])
     clear HR
     go_wp2
     go_ret
     exact ⟨rfl, HR2.out, HG.out⟩
end Nu
end Go.Proofs.YtjnhniffgeepjaaGreat
