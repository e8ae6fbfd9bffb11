/-
 What the model answers for Logged, in plain words.
 What the program's own LogOk and Logged answer, in the words of LogM and LogE; for coins of at most 2^20 numbers and lists of knots whose words have at most 2^40 bytes.
-/
import Derived.Test.YtjnhniffgeepjaaGreatezLoG
set_option linter.unusedVariables false
namespace Go.Proofs.YtjnhniffgeepjaaGreat
open Go.RowKit Go.Shelf
set_option maxRecDepth 100000
set_option linter.unusedVariables false
attribute [local go_sem] Oper.semAt_some
namespace Lo
open Kn (K okK)
open Lc (at' RdK WordsOk laceB)
open Lg (At sameB stepB logB RdL put goesB seenL toldL LoggedPost CopyPost OwnLL fin_put grown_two own_lift row_kept ll_lift ll_kept)
open Sg (closedB NumsPost)
open Tl (outL beginsB)
theorem log_led {L : List K} {C S : List Int} {T : List (List Int)} (h : (laceB L && Rm.coinsB C) = false) : logB L C S T = false := by
 unfold Lg.logB; rw [h]; simp
theorem getD_snocI (S : List Int) (s : Int) (i : Nat) (hi : i < S.length) : (S ++ [s]).getD i 0 = S.getD i 0 := by
 simp [List.getD, List.getElem?_append_left hi]
theorem getD_lastI (S : List Int) (s : Int) : (S ++ [s]).getD S.length 0 = s := by simp [List.getD]
theorem goes_go {L : List K} {C S : List Int} {T : List (List Int)} {s : Int} (h : logB L C S T = true) : goesB L C S T s = goB L C S.length (lastS S S.length) (lastL T S.length) s := by
 obtain ⟨h40, hT, hl, hc, hst⟩ := Lg.log_parts h
 have eT : (T ++ [outL L C s]).getD S.length [] = outL L C s := by rw [← hT]; exact Lg.getD_last T _
 have old : ∀ i, i < S.length → stepB L C (S ++ [s]) (T ++ [outL L C s]) i = stepB L C S T i := fun i hi => by
   unfold Lg.stepB
   rw [getD_snocI S s i hi, getD_snocI S s (i - 1) (by omega), Lg.getD_snoc T _ i (by omega), Lg.getD_snoc T _ (i - 1) (by omega)]
 have new : closedB L s = true → stepB L C (S ++ [s]) (T ++ [outL L C s]) S.length = (decide (bits .andNot .i64 (lastS S S.length) s = 0) && beginsB (outL L C s) (lastL T S.length)) := fun hcl => by
   unfold Lg.stepB
   rw [getD_lastI, eT, hcl, same_self]
   by_cases h0 : S.length = 0
   · unfold lastS lastL
     rw [if_pos h0, if_pos h0, andNot_nil, begins_nil, decide_eq_true h0]; rfl
   · unfold lastS lastL
     rw [if_neg h0, if_neg h0, getD_snocI S s (S.length - 1) (by omega), Lg.getD_snoc T _ (S.length - 1) (by omega), decide_eq_false h0]
     simp
 rw [Bool.eq_iff_iff]
 constructor
 · intro hg
   unfold Lg.goesB at hg
   simp only [Bool.and_eq_true] at hg
   obtain ⟨_, hcl, hlg⟩ := hg
   obtain ⟨k40, _, _, _, kst⟩ := Lg.log_parts hlg
   have k := kst S.length (by simp)
   rw [new hcl] at k
   unfold goB
   rw [hcl, k, decide_eq_true (by simp at k40; omega)]; rfl
 · intro hg
   unfold goB at hg
   rw [Bool.and_eq_true, Bool.and_eq_true] at hg
   obtain ⟨hn, hcl, hx⟩ := hg
   have hn' := of_decide_eq_true hn
   unfold Lg.goesB
   rw [h, hcl, Bool.true_and, Bool.true_and]
   refine Lg.log_yes (by simp; omega) (by simp [hT]) hl hc (fun i hi => ?_)
   by_cases e : i < S.length
   · rw [old i e]; exact hst i e
   · obtain rfl : i = S.length := by simp at hi; omega
     rw [new hcl]; exact hx
theorem rec_case (h : At) (S : List Int) (T : List (List Int)) : (S.length = 0 ∧ recV h S T S.length = .iface 97 (.agg #[])) ∨ ∃ m, S.length = m + 1 ∧ recV h S T S.length = .iface 102 (.agg #[recV h S T m, .int .i64 (S.getD m 0), .slice (h m).1 (T.getD m []).length (h m).2]) := by
 rcases hn : S.length with _ | m
 · exact .inl ⟨rfl, rfl⟩
 · exact .inr ⟨m, rfl, rfl⟩
theorem handedMore {B B' : Nat} (h : At) (S : List Int) (T : List (List Int)) (s : Int) (ro : Option Addr) (rc : Nat) (tl : List Int) (W : World) (hT : T.length = S.length) (h40 : S.length ≤ 40) (p : Pg B W S.length T h) (hO : Memb.Own B' W ro rc tl) (htl : tl.length ≤ 3660) : Calls Tryz.prog 190 #[.agg #[recV h S T S.length, .int .i64 s, .slice ro tl.length rc]] W (CopyPost (S ++ [s]) (T ++ [tl]) W) := by
 rcases rec_case h S T with ⟨h0, e⟩ | ⟨m, hm, e⟩
 · rw [e]
   obtain rfl : S = [] := List.length_eq_zero_iff.1 h0
   obtain rfl : T = [] := List.length_eq_zero_iff.1 hT
   exact handedB s ro rc tl [] [] W hO htl (by simp) (by simp) (fun V _ => handed0 V)
 · rw [e]
   exact handedP _ s ro rc tl S T W hO htl h40 (by omega) (fun V hV => by
     have k := handed h S T m V (by omega) (by omega) (by omega) ⟨fun j hj => Lst.own_below (p.each j (by omega)) hV, fun j hj => p.row j (by omega)⟩
     rw [show S.take (m + 1) = S from List.take_of_length_le (by omega), show T.take (m + 1) = T from List.take_of_length_le (by omega)] at k
     exact k)
set_option maxHeartbeats 3200000 in
theorem implLogOk (g off cap : Nat) (L : List K) (ao : Option Addr) (cc : Nat) (C : List Int) (so qo : Option Addr) (sc tc : Nat) (S : List Int) (T : List (List Int)) (f : At) (w : World) (hlen : L.length ≤ 1099511627776) (hw : WordsOk L) (hr : RdK w (some ⟨g, off, none⟩) L) (hl : C.length ≤ 1048576) (hrd : Lst.Rd w ao C) (hao : ∀ c, ao = some ⟨c, 0, none⟩ → c < w.heap.size) (hlog : RdL w so qo S T f) (hS20 : S.length ≤ 1048576) (hT20 : T.length ≤ 1048576) (hsb : ∀ i, i < S.length → -9223372036854775808 ≤ S.getD i 0 ∧ S.getD i 0 ≤ 9223372036854775807) :
   Calls Tryz.prog 19 #[.slice (some ⟨g, off, none⟩) L.length cap, .slice ao C.length cc, .agg #[.slice so S.length sc, .slice qo T.length tc]] w fun e w' => e = .returned (.bool (logB L C S T)) ∧ Below w.heap.size w w' := by
 have hb0 : Below w.heap.size w (w.alloc (.cells #[.slice so S.length sc, .slice qo T.length tc] 39) ) := (Below.refl _ _).alloc (Nat.le_refl _) _
 have c0 : (w.alloc (.cells #[.slice so S.length sc, .slice qo T.length tc] 39) ).cell? ⟨w.heap.size, 0, none⟩ = some (.slice so S.length sc) := by simp
 have c1 : (w.alloc (.cells #[.slice so S.length sc, .slice qo T.length tc] 39) ).cell? ⟨w.heap.size, 1, none⟩ = some (.slice qo T.length tc) := by simp
 have hlt : w.heap.size < (w.alloc (.cells #[.slice so S.length sc, .slice qo T.length tc] 39) ).heap.size := by simp
 generalize hv : w.alloc (.cells #[.slice so S.length sc, .slice qo T.length tc] 39) = V at hb0 c0 c1 hlt
 have HV : Hid (w.alloc (.cells #[.slice so S.length sc, .slice qo T.length tc] 39) = V) := hv
 have hled := Fw.ledLace g off cap L ao cc C V hlen hw (hr.below hb0) hl (Ch.rd_below hrd hao hb0) (fun c e => Nat.lt_of_lt_of_le (hao c e) hb0.size)
 have HLG : Hid (RdL V so qo S T f) := hlog.below hb0
 have HB0 : Hid (Below w.heap.size w V) := hb0
 have HCC : Hid (∀ W, Below V.heap.size V W → W.cell? ⟨w.heap.size, 0, none⟩ = some (.slice so S.length sc) ∧ W.cell? ⟨w.heap.size, 1, none⟩ = some (.slice qo T.length tc)) := fun W hW => ⟨(hW.cell (p := ⟨w.heap.size, 0, none⟩) hlt).trans c0, (hW.cell (p := ⟨w.heap.size, 1, none⟩) hlt).trans c1⟩
 have HSB : Hid (_) := hsb
 clear hr hrd hao hw hlog hv hb0 c0 c1 hlt hsb
 go_enter Tryz.func19, Tryz.ntmps19
 go_wp2_with fail
 rw [HV.out]
 clear HV
 go_wp2_with fail
 refine hled.mono ?_
 clear hled
 rintro e w1 (⟨hlc, hc, g', rfl, hg', hrg, hb1⟩ | ⟨hn, v, y0, y1, y2, y3, y4, y5, y6, rfl, hb1⟩)
 · have hB1 : Below w1.heap.size w1 (w1.alloc (.cells #[.int .i64 (Ch.leadI C 0), .int .i64 (Ch.leadI C 1), .int .i64 (Ch.leadI C 2), .int .i64 (Ch.leadI C 3), .int .i64 (Ch.leadI C 4), .int .i64 (Ch.leadI C 5), .int .i64 (Ch.leadI C 6)] 57)) := (Below.refl _ _).alloc (Nat.le_refl _) _
   have HB2 : Hid (Below V.heap.size V (w1.alloc (.cells #[.int .i64 (Ch.leadI C 0), .int .i64 (Ch.leadI C 1), .int .i64 (Ch.leadI C 2), .int .i64 (Ch.leadI C 3), .int .i64 (Ch.leadI C 4), .int .i64 (Ch.leadI C 5), .int .i64 (Ch.leadI C 6)] 57))) := hb1.alloc hb1.size _
   have HRW : Hid (Db.RowI (w1.alloc (.cells #[.int .i64 (Ch.leadI C 0), .int .i64 (Ch.leadI C 1), .int .i64 (Ch.leadI C 2), .int .i64 (Ch.leadI C 3), .int .i64 (Ch.leadI C 4), .int .i64 (Ch.leadI C 5), .int .i64 (Ch.leadI C 6)] 57)) w1.heap.size 7 (fun i => Ch.leadI C (i : Int))) := Ch.rowI_seven w1 57 (fun i => Ch.leadI C (i : Int))
   generalize hv2 : w1.alloc (.cells #[.int .i64 (Ch.leadI C 0), .int .i64 (Ch.leadI C 1), .int .i64 (Ch.leadI C 2), .int .i64 (Ch.leadI C 3), .int .i64 (Ch.leadI C 4), .int .i64 (Ch.leadI C 5), .int .i64 (Ch.leadI C 6)] 57) = W2 at hB1 HB2 HRW
   have HV2 : Hid (w1.alloc (.cells #[.int .i64 (Ch.leadI C 0), .int .i64 (Ch.leadI C 1), .int .i64 (Ch.leadI C 2), .int .i64 (Ch.leadI C 3), .int .i64 (Ch.leadI C 4), .int .i64 (Ch.leadI C 5), .int .i64 (Ch.leadI C 6)] 57) = W2) := hv2
   have hrc := recordOf g' 0 L.length L C so qo sc tc S T f W2 hlc hc (Nat.lt_of_lt_of_le hg' hB1.size) (hrg.below hB1) (HLG.out.below HB2.out) hS20 hT20 HSB.out
   obtain ⟨c0, c1⟩ := HCC.out W2 HB2.out
   have p0 := HRW.out.rd 0 (by omega)
   have p1 := HRW.out.rd 1 (by omega)
   have p2 := HRW.out.rd 2 (by omega)
   have p3 := HRW.out.rd 3 (by omega)
   have p4 := HRW.out.rd 4 (by omega)
   have p5 := HRW.out.rd 5 (by omega)
   have p6 := HRW.out.rd 6 (by omega)
   clear hv2 hlc hc hg' hrg hb1 hB1 HRW
   go_upto_region 2 with fail
   rw [HV2.out]
   clear HV2
   go_wp2_with fail
   refine hrc.mono ?_
   rintro e w3 ⟨hpost, hb3⟩
   have HB3 : Hid (Below w.heap.size w w3) := HB0.out.trans ((HB2.out.trans (hb3.mono HB2.out.size)).mono HB0.out.size)
   clear hrc hb3 c0 c1 p0 p1 p2 p3 p4 p5 p6
   rcases hpost with ⟨hlo, h, rfl, _⟩ | ⟨hlo, v, rfl⟩
   · have HT : Hid (logB L C S T = true) := hlo
     clear hlo
     generalize recV h S T S.length = rv
     go_wp2
     go_ret
     exact ⟨by rw [HT.out]; rfl, HB3.out⟩
   · have HT : Hid (logB L C S T = false) := hlo
     clear hlo
     go_wp2
     go_ret
     exact ⟨by rw [HT.out]; rfl, HB3.out⟩
 · have HT : Hid (logB L C S T = false) := log_led hn
   have HB2 : Hid (Below w.heap.size w (w1.alloc (.cells #[.int .i64 y0, .int .i64 y1, .int .i64 y2, .int .i64 y3, .int .i64 y4, .int .i64 y5, .int .i64 y6] 57))) := HB0.out.trans ((hb1.alloc hb1.size _).mono HB0.out.size)
   clear hn hb1
   go_wp2
   go_ret
   exact ⟨by rw [HT.out]; rfl, HB2.out⟩
set_option maxHeartbeats 6400000 in
theorem implLogged (g off cap : Nat) (L : List K) (ao : Option Addr) (cc : Nat) (C : List Int) (so qo : Option Addr) (sc tc : Nat) (S : List Int) (T : List (List Int)) (f : At) (s : Int) (w : World) (hlen : L.length ≤ 1099511627776) (hw : WordsOk L) (hr : RdK w (some ⟨g, off, none⟩) L) (hl : C.length ≤ 1048576) (hrd : Lst.Rd w ao C) (hao : ∀ c, ao = some ⟨c, 0, none⟩ → c < w.heap.size) (hlog : RdL w so qo S T f) (hS20 : S.length ≤ 1048576) (hT20 : T.length ≤ 1048576) (hsb : ∀ i, i < S.length → -9223372036854775808 ≤ S.getD i 0 ∧ S.getD i 0 ≤ 9223372036854775807) (hs0 : -9223372036854775808 ≤ s) (hs1 : s ≤ 9223372036854775807) :
   Calls Tryz.prog 22 #[.slice (some ⟨g, off, none⟩) L.length cap, .slice ao C.length cc, .agg #[.slice so S.length sc, .slice qo T.length tc], .int .i64 s] w (LoggedPost L C S T s w) := by
 have H2 := two_new w (.cells #[.slice so S.length sc, .slice qo T.length tc] 39)
 have H3 := two_fr w (.cells #[.slice so S.length sc, .slice qo T.length tc] 39)
 have hc0 : ((w.alloc (.cells #[.slice so S.length sc, .slice qo T.length tc] 39) ).alloc (.cells #[.slice none 0 0, .slice none 0 0] 39)).cell? ⟨w.heap.size, 0, none⟩ = some (.slice so S.length sc) := by rw [World.cell?_alloc_lt _ _ _ (by simp)]; simp
 have hc1 : ((w.alloc (.cells #[.slice so S.length sc, .slice qo T.length tc] 39) ).alloc (.cells #[.slice none 0 0, .slice none 0 0] 39)).cell? ⟨w.heap.size, 1, none⟩ = some (.slice qo T.length tc) := by rw [World.cell?_alloc_lt _ _ _ (by simp)]; simp
 generalize hv : (w.alloc (.cells #[.slice so S.length sc, .slice qo T.length tc] 39) ).alloc (.cells #[.slice none 0 0, .slice none 0 0] 39) = V at H2 H3 hc0 hc1
 have HV : Hid ((w.alloc (.cells #[.slice so S.length sc, .slice qo T.length tc] 39) ).alloc (.cells #[.slice none 0 0, .slice none 0 0] 39) = V) := hv
 obtain ⟨hlt, r0, r1, _, hb0⟩ := H2
 obtain ⟨f0, f1⟩ := H3
 have hled := Fw.ledLace g off cap L ao cc C V hlen hw (hr.below hb0) hl (Ch.rd_below hrd hao hb0) (fun c e => Nat.lt_of_lt_of_le (hao c e) hb0.size)
 have HLG : Hid (RdL V so qo S T f) := hlog.below hb0
 have HB0 : Hid (Below w.heap.size w V) := hb0
 have HCC : Hid (∀ W, Below V.heap.size V W → W.cell? ⟨w.heap.size, 0, none⟩ = some (.slice so S.length sc) ∧ W.cell? ⟨w.heap.size, 1, none⟩ = some (.slice qo T.length tc)) := fun W hW => ⟨(hW.cell (p := ⟨w.heap.size, 0, none⟩) (show w.heap.size < V.heap.size by omega)).trans hc0, (hW.cell (p := ⟨w.heap.size, 1, none⟩) (show w.heap.size < V.heap.size by omega)).trans hc1⟩
 have HRC : Hid (∀ W, Below V.heap.size V W → W.cell? ⟨w.heap.size + 1, 0, none⟩ = some (.slice none 0 0) ∧ W.cell? ⟨w.heap.size + 1, 1, none⟩ = some (.slice none 0 0) ∧ W.frozen? ⟨w.heap.size + 1, 0, none⟩ = false ∧ W.frozen? ⟨w.heap.size + 1, 1, none⟩ = false) := fun W hW => ⟨(hW.cell (p := ⟨w.heap.size + 1, 0, none⟩) hlt).trans r0, (hW.cell (p := ⟨w.heap.size + 1, 1, none⟩) hlt).trans r1, (hW.frozen (p := ⟨w.heap.size + 1, 0, none⟩) hlt).trans f0, (hW.frozen (p := ⟨w.heap.size + 1, 1, none⟩) hlt).trans f1⟩
 have HLT : Hid (w.heap.size + 1 < V.heap.size) := hlt
 have HSB : Hid (_) := hsb
 have HNIL : Hid (∀ W, Below V.heap.size V W → logB L C S T = false → (W.setCell ⟨w.heap.size + 1, 0, none⟩ (.slice none 0 0)).cell? ⟨w.heap.size + 1, 1, none⟩ = some (.slice none 0 0) ∧ (W.setCell ⟨w.heap.size + 1, 0, none⟩ (.slice none 0 0)).frozen? ⟨w.heap.size + 1, 1, none⟩ = false ∧ ((W.setCell ⟨w.heap.size + 1, 0, none⟩ (.slice none 0 0)).setCell ⟨w.heap.size + 1, 1, none⟩ (.slice none 0 0)).cell? ⟨w.heap.size + 1, 0, none⟩ = some (.slice none 0 0) ∧ ((W.setCell ⟨w.heap.size + 1, 0, none⟩ (.slice none 0 0)).setCell ⟨w.heap.size + 1, 1, none⟩ (.slice none 0 0)).cell? ⟨w.heap.size + 1, 1, none⟩ = some (.slice none 0 0) ∧ LoggedPost L C S T s w (.returned (.tuple #[.agg #[.slice none 0 0, .slice none 0 0], .bool false])) ((W.setCell ⟨w.heap.size + 1, 0, none⟩ (.slice none 0 0)).setCell ⟨w.heap.size + 1, 1, none⟩ (.slice none 0 0))) := fun W hW hlo => by
   obtain ⟨q0, q1, q2, q3⟩ := HRC.out W hW
   obtain ⟨k1, k2, k3, k4, k5⟩ := fin_put (x := .slice none 0 0) (y := .slice none 0 0) (Nat.le_succ w.heap.size) (HB0.out.trans (hW.mono HB0.out.size)) q0 q1 q3
   refine ⟨k1, k2, k3, k4, ?_⟩
   unfold Lg.LoggedPost Lg.seenL Lg.toldL Lg.goesB
   rw [hlo]
   exact ⟨none, 0, none, 0, fun _ => (none, 0), rfl, ⟨rfl, .inl ⟨rfl, rfl⟩⟩, ⟨⟨rfl, .inl ⟨rfl, rfl⟩⟩, fun i hi => by simp at hi, fun i j hij hj => by simp at hj⟩, fun i hi => by simp at hi, k5⟩
 clear hr hrd hao hw hlog hv hb0 hc0 hc1 hlt hsb r0 r1 f0 f1
 go_enter Tryz.func22, Tryz.ntmps22
 go_wp2_with fail
 rw [HV.out]
 clear HV
 go_wp2_with fail
 refine hled.mono ?_
 clear hled
 rintro e w1 (⟨hlc, hc, g', rfl, hg', hrg, hb1⟩ | ⟨hn, v, y0, y1, y2, y3, y4, y5, y6, rfl, hb1⟩)
 · have hB1 : Below w1.heap.size w1 (w1.alloc (.cells #[.int .i64 (Ch.leadI C 0), .int .i64 (Ch.leadI C 1), .int .i64 (Ch.leadI C 2), .int .i64 (Ch.leadI C 3), .int .i64 (Ch.leadI C 4), .int .i64 (Ch.leadI C 5), .int .i64 (Ch.leadI C 6)] 57)) := (Below.refl _ _).alloc (Nat.le_refl _) _
   have HB2 : Hid (Below V.heap.size V (w1.alloc (.cells #[.int .i64 (Ch.leadI C 0), .int .i64 (Ch.leadI C 1), .int .i64 (Ch.leadI C 2), .int .i64 (Ch.leadI C 3), .int .i64 (Ch.leadI C 4), .int .i64 (Ch.leadI C 5), .int .i64 (Ch.leadI C 6)] 57))) := hb1.alloc hb1.size _
   have HRW : Hid (Db.RowI (w1.alloc (.cells #[.int .i64 (Ch.leadI C 0), .int .i64 (Ch.leadI C 1), .int .i64 (Ch.leadI C 2), .int .i64 (Ch.leadI C 3), .int .i64 (Ch.leadI C 4), .int .i64 (Ch.leadI C 5), .int .i64 (Ch.leadI C 6)] 57)) w1.heap.size 7 (fun i => Ch.leadI C (i : Int))) := Ch.rowI_seven w1 57 (fun i => Ch.leadI C (i : Int))
   generalize hv2 : w1.alloc (.cells #[.int .i64 (Ch.leadI C 0), .int .i64 (Ch.leadI C 1), .int .i64 (Ch.leadI C 2), .int .i64 (Ch.leadI C 3), .int .i64 (Ch.leadI C 4), .int .i64 (Ch.leadI C 5), .int .i64 (Ch.leadI C 6)] 57) = W2 at hB1 HB2 HRW
   have HV2 : Hid (w1.alloc (.cells #[.int .i64 (Ch.leadI C 0), .int .i64 (Ch.leadI C 1), .int .i64 (Ch.leadI C 2), .int .i64 (Ch.leadI C 3), .int .i64 (Ch.leadI C 4), .int .i64 (Ch.leadI C 5), .int .i64 (Ch.leadI C 6)] 57) = W2) := hv2
   have hgW := Nat.lt_of_lt_of_le hg' hB1.size
   have hrW := hrg.below hB1
   have hrc := recordOf g' 0 L.length L C so qo sc tc S T f W2 hlc hc hgW hrW (HLG.out.below HB2.out) hS20 hT20 HSB.out
   have HLD : Hid (∀ (W : World) (rv : Value) (n : Nat) (u : Int) (l : List Int), Below W2.heap.size W2 W → Rec W rv n u l → l.length ≤ 1048576 → Calls Tryz.prog 45 #[.slice (some ⟨g', 0, none⟩) L.length L.length, .agg #[.int .i64 (Ch.leadI C 0), .int .i64 (Ch.leadI C 1), .int .i64 (Ch.leadI C 2), .int .i64 (Ch.leadI C 3), .int .i64 (Ch.leadI C 4), .int .i64 (Ch.leadI C 5), .int .i64 (Ch.leadI C 6)], rv, .int .i64 s] W (LoggedP L C rv n u l s W)) := fun W rv n u l hW h1 h2 => logged g' 0 L.length L C s rv n u l W hlc hc (Nat.lt_of_lt_of_le hgW hW.size) (hrW.below hW) hs0 hs1 h1 h2
   have HOL : Hid (closedB L s = true → (outL L C s).length ≤ 3660) := fun hq => Lg.out_len hq hc
   obtain ⟨c0, c1⟩ := HCC.out W2 HB2.out
   have p0 := HRW.out.rd 0 (by omega)
   have p1 := HRW.out.rd 1 (by omega)
   have p2 := HRW.out.rd 2 (by omega)
   have p3 := HRW.out.rd 3 (by omega)
   have p4 := HRW.out.rd 4 (by omega)
   have p5 := HRW.out.rd 5 (by omega)
   have p6 := HRW.out.rd 6 (by omega)
   clear hv2 hlc hc hg' hrg hb1 hB1 hgW hrW
   go_upto_region 2 with fail
   rw [HV2.out]
   clear HV2
   go_wp2_with fail
   refine hrc.mono ?_
   rintro e w3 ⟨hpost, hb3⟩
   have HB3 : Hid (Below W2.heap.size W2 w3) := hb3
   have HB3V : Hid (Below V.heap.size V w3) := HB2.out.trans (hb3.mono HB2.out.size)
   clear hrc hb3 c0 c1 p0 p1 p2 p3 p4 p5 p6
   rcases hpost with ⟨hlo, h, rfl, hpg⟩ | ⟨hlo, v, rfl⟩
   · have HLO : Hid (logB L C S T = true) := hlo
     obtain ⟨h40, hTS, _, _, _⟩ := Lg.log_parts hlo
     have HGG : Hid (_) := goes_go (s := s) hlo
     have HPG : Hid (Pg W2.heap.size w3 S.length T h) := hpg
     have HTS : Hid (T.length = S.length) := hTS
     have hld := HLD.out w3 _ _ _ _ HB3.out (rec_of (S := S) hpg (by omega)) (lastL_len hpg)
     have hR3 := Fw.rowI_kept HRW.out HB3.out
     obtain ⟨rv, hrv⟩ : ∃ rv, recV h S T S.length = rv := ⟨_, rfl⟩
     have HRV : Hid (recV h S T S.length = rv) := hrv
     rw [hrv] at hld ⊢
     have p0 := hR3.rd 0 (by omega)
     have p1 := hR3.rd 1 (by omega)
     have p2 := hR3.rd 2 (by omega)
     have p3 := hR3.rd 3 (by omega)
     have p4 := hR3.rd 4 (by omega)
     have p5 := hR3.rd 5 (by omega)
     have p6 := hR3.rd 6 (by omega)
     clear hlo hpg hTS hR3 hrv HLD HRW
     go_wp2_with fail
     refine hld.mono ?_
     rintro e w4 ⟨hpost, hb4⟩
     have HB4 : Hid (Below V.heap.size V w4) := HB3V.out.trans (hb4.mono HB3V.out.size)
     have HPG4 : Hid (Pg W2.heap.size w4 S.length T h) := HPG.out.below hb4
     clear hld hb4 p0 p1 p2 p3 p4 p5 p6 HPG
     rcases hpost with ⟨hgo, ro, rc, rfl, hO⟩ | ⟨hgo, rfl⟩
     · have HG : Hid (goesB L C S T s = true) := HGG.out.trans hgo
       have hcl : closedB L s = true := by
         unfold goB at hgo
         simp only [Bool.and_eq_true] at hgo
         exact hgo.2.1
       have hh := handedMore h S T s ro rc (outL L C s) w4 HTS.out h40 HPG4.out hO (HOL.out hcl)
       have HSE : Hid (seenL L C S T s = S ++ [s] ∧ toldL L C S T s = T ++ [outL L C s]) := by
         show _ ∧ _
         unfold Lg.seenL Lg.toldL
         rw [HLO.out, HG.out]; exact ⟨rfl, rfl⟩
       rw [HRV.out] at hh
       generalize hoo : outL L C s = ol at hh HSE
       clear hgo hO hcl HGG HOL hoo
       go_wp2_with fail
       refine hh.mono ?_
       rintro e w5 ⟨a5, c5, vo5, vc5, f5, rfl, hO5, hL5, hA5, hb5⟩
       have HB5 : Hid (Below V.heap.size V w5) := HB4.out.trans (hb5.mono HB4.out.size)
       obtain ⟨r0, r1, f0, f1⟩ := HRC.out w5 HB5.out
       obtain ⟨k1, k2, k3, k4, k5⟩ := fin_put (x := .slice a5 (S ++ [s]).length c5) (y := .slice vo5 (T ++ [ol]).length vc5) (Nat.le_succ w.heap.size) (HB0.out.trans (HB5.out.mono HB0.out.size)) r0 r1 f1
       have hgt := grown_two w5 (w.heap.size + 1) (.slice a5 (S ++ [s]).length c5) (.slice vo5 (T ++ [ol]).length vc5)
       have hlt4 : w.heap.size + 1 < w4.heap.size := Nat.lt_of_lt_of_le HLT.out HB4.out.size
       have HE : Hid (LoggedPost L C S T s w (.returned (.tuple #[.agg #[.slice a5 (S ++ [s]).length c5, .slice vo5 (T ++ [ol]).length vc5], .bool true])) ((w5.setCell ⟨w.heap.size + 1, 0, none⟩ (.slice a5 (S ++ [s]).length c5)).setCell ⟨w.heap.size + 1, 1, none⟩ (.slice vo5 (T ++ [ol]).length vc5))) := by
         show LoggedPost _ _ _ _ _ _ _ _
         unfold Lg.LoggedPost
         rw [HSE.out.1, HSE.out.2, HG.out]
         exact ⟨a5, c5, vo5, vc5, f5, rfl, own_lift (row_kept hO5 hgt hlt4) (by omega), ll_lift (ll_kept hL5 hgt hlt4) (by omega), hA5, k5⟩
       clear hh hO5 hL5 hA5 hb5 k5 hgt hlt4
       generalize (S ++ [s]).length = n5 at k1 k2 k3 k4 HE ⊢
       generalize (T ++ [ol]).length = m5 at k1 k2 k3 k4 HE ⊢
       go_wp2
       refine bodyPost_ret (v := .tuple #[.agg #[.slice a5 n5 c5, .slice vo5 m5 vc5], .bool true]) (by simp [results, Tryz.f22, go_sem, k3, k4]) rfl ?_
       exact HE.out
     · have HG : Hid (goesB L C S T s = false) := HGG.out.trans hgo
       have HSE : Hid (seenL L C S T s = S ∧ toldL L C S T s = T) := by
         show _ ∧ _
         unfold Lg.seenL Lg.toldL
         rw [HLO.out, HG.out]; exact ⟨rfl, rfl⟩
       clear hgo HGG HOL
       rcases rec_case h S T with ⟨h0, e⟩ | ⟨m, hm, e⟩
       · obtain rfl : rv = .iface 97 (.agg #[]) := by rw [← HRV.out, e]
         have hh : Calls Tryz.prog 187 #[.agg #[]] w4 (CopyPost S T w4) := by
           have e1 : S = [] := List.length_eq_zero_iff.1 h0
           have e2 : T = [] := List.length_eq_zero_iff.1 (by have := HTS.out; omega)
           rw [e1, e2]; exact handed0 w4
         clear e h0 HRV
         go_wp2_with fail
         refine hh.mono ?_
         rintro e w5 ⟨a5, c5, vo5, vc5, f5, rfl, hO5, hL5, hA5, hb5⟩
         have HB5 : Hid (Below V.heap.size V w5) := HB4.out.trans (hb5.mono HB4.out.size)
         obtain ⟨r0, r1, f0, f1⟩ := HRC.out w5 HB5.out
         obtain ⟨k1, k2, k3, k4, k5⟩ := fin_put (x := .slice a5 S.length c5) (y := .slice vo5 T.length vc5) (Nat.le_succ w.heap.size) (HB0.out.trans (HB5.out.mono HB0.out.size)) r0 r1 f1
         have hgt := grown_two w5 (w.heap.size + 1) (.slice a5 S.length c5) (.slice vo5 T.length vc5)
         have hlt4 : w.heap.size + 1 < w4.heap.size := Nat.lt_of_lt_of_le HLT.out HB4.out.size
         have HE : Hid (LoggedPost L C S T s w (.returned (.tuple #[.agg #[.slice a5 S.length c5, .slice vo5 T.length vc5], .bool false])) ((w5.setCell ⟨w.heap.size + 1, 0, none⟩ (.slice a5 S.length c5)).setCell ⟨w.heap.size + 1, 1, none⟩ (.slice vo5 T.length vc5))) := by
           show LoggedPost _ _ _ _ _ _ _ _
           unfold Lg.LoggedPost
           rw [HSE.out.1, HSE.out.2, HG.out]
           exact ⟨a5, c5, vo5, vc5, f5, rfl, own_lift (row_kept hO5 hgt hlt4) (by omega), ll_lift (ll_kept hL5 hgt hlt4) (by omega), hA5, k5⟩
         clear hh hO5 hL5 hA5 hb5 k5 hgt hlt4
         generalize S.length = n5 at k1 k2 k3 k4 HE ⊢
         generalize T.length = m5 at k1 k2 k3 k4 HE ⊢
         go_wp2
         refine bodyPost_ret (v := .tuple #[.agg #[.slice a5 n5 c5, .slice vo5 m5 vc5], .bool false]) (by simp [results, Tryz.f22, go_sem, k3, k4]) rfl ?_
         exact HE.out
       · obtain rfl : rv = .iface 102 (.agg #[recV h S T m, .int .i64 (S.getD m 0), .slice (h m).1 (T.getD m []).length (h m).2]) := by rw [← HRV.out, e]
         have hh : Calls Tryz.prog 190 #[.agg #[recV h S T m, .int .i64 (S.getD m 0), .slice (h m).1 (T.getD m []).length (h m).2]] w4 (CopyPost S T w4) := by
           have k := handed h S T m w4 (by omega) (by have := HTS.out; omega) (by omega) ⟨fun j hj => HPG4.out.each j (by omega), fun j hj => HPG4.out.row j (by omega)⟩
           rw [show S.take (m + 1) = S from List.take_of_length_le (by omega), show T.take (m + 1) = T from List.take_of_length_le (by have := HTS.out; omega)] at k
           exact k
         clear e hm HRV
         generalize recV h S T m = rv2 at hh ⊢
         generalize S.getD m 0 = sm at hh ⊢
         generalize (T.getD m []).length = tm at hh ⊢
         generalize (h m).1 = hm1 at hh ⊢
         generalize (h m).2 = hm2 at hh ⊢
         go_wp2_with fail
         refine hh.mono ?_
         rintro e w5 ⟨a5, c5, vo5, vc5, f5, rfl, hO5, hL5, hA5, hb5⟩
         have HB5 : Hid (Below V.heap.size V w5) := HB4.out.trans (hb5.mono HB4.out.size)
         obtain ⟨r0, r1, f0, f1⟩ := HRC.out w5 HB5.out
         obtain ⟨k1, k2, k3, k4, k5⟩ := fin_put (x := .slice a5 S.length c5) (y := .slice vo5 T.length vc5) (Nat.le_succ w.heap.size) (HB0.out.trans (HB5.out.mono HB0.out.size)) r0 r1 f1
         have hgt := grown_two w5 (w.heap.size + 1) (.slice a5 S.length c5) (.slice vo5 T.length vc5)
         have hlt4 : w.heap.size + 1 < w4.heap.size := Nat.lt_of_lt_of_le HLT.out HB4.out.size
         have HE : Hid (LoggedPost L C S T s w (.returned (.tuple #[.agg #[.slice a5 S.length c5, .slice vo5 T.length vc5], .bool false])) ((w5.setCell ⟨w.heap.size + 1, 0, none⟩ (.slice a5 S.length c5)).setCell ⟨w.heap.size + 1, 1, none⟩ (.slice vo5 T.length vc5))) := by
           show LoggedPost _ _ _ _ _ _ _ _
           unfold Lg.LoggedPost
           rw [HSE.out.1, HSE.out.2, HG.out]
           exact ⟨a5, c5, vo5, vc5, f5, rfl, own_lift (row_kept hO5 hgt hlt4) (by omega), ll_lift (ll_kept hL5 hgt hlt4) (by omega), hA5, k5⟩
         clear hh hO5 hL5 hA5 hb5 k5 hgt hlt4
         generalize S.length = n5 at k1 k2 k3 k4 HE ⊢
         generalize T.length = m5 at k1 k2 k3 k4 HE ⊢
         go_wp2
         refine bodyPost_ret (v := .tuple #[.agg #[.slice a5 n5 c5, .slice vo5 m5 vc5], .bool false]) (by simp [results, Tryz.f22, go_sem, k3, k4]) rfl ?_
         exact HE.out
   · obtain ⟨r0, r1, f0, f1⟩ := HRC.out w3 HB3V.out
     obtain ⟨k1, k2, k3, k4, k5⟩ := HNIL.out w3 HB3V.out hlo
     have HP : Hid (_) := k5
     clear hlo k5
     go_wp2
     refine bodyPost_ret (v := .tuple #[.agg #[.slice none 0 0, .slice none 0 0], .bool false]) (by simp [results, Tryz.f22, go_sem, k3, k4]) rfl ?_
     exact HP.out
 · have hB2 : Below V.heap.size V (w1.alloc (.cells #[.int .i64 y0, .int .i64 y1, .int .i64 y2, .int .i64 y3, .int .i64 y4, .int .i64 y5, .int .i64 y6] 57)) := hb1.alloc hb1.size _
   obtain ⟨r0, r1, f0, f1⟩ := HRC.out _ hB2
   obtain ⟨k1, k2, k3, k4, k5⟩ := HNIL.out _ hB2 (log_led hn)
   have HP : Hid (_) := k5
   clear hn hb1 hB2 k5
   go_upto_region 2 with fail
   generalize w1.alloc (.cells #[.int .i64 y0, .int .i64 y1, .int .i64 y2, .int .i64 y3, .int .i64 y4, .int .i64 y5, .int .i64 y6] 57) = W2 at r0 r1 f0 f1 k1 k2 k3 k4 HP ⊢
   go_wp2
   refine bodyPost_ret (v := .tuple #[.agg #[.slice none 0 0, .slice none 0 0], .bool false]) (by simp [results, Tryz.f22, go_sem, k3, k4]) rfl ?_
   exact HP.out
end Lo
end Go.Proofs.YtjnhniffgeepjaaGreat
namespace Go.Proofs.YtjnhniffgeepjaaGreat
open Go.RowKit
set_option maxRecDepth 100000
set_option linter.unusedVariables false
namespace Lg
open Kn (K okK)
open Lc (at' RdK WordsOk laceB setB)
open Sg (closedB NumsPost)
open Tl (outL beginsB)
structure LSt (w W : World) (so qo : Option Addr) (sc tc : Nat) (S : List Int) (T : List (List Int)) : Prop where
 bel : Below w.heap.size w W
 lt : w.heap.size + 1 < W.heap.size
 b0 : W.cell? ⟨w.heap.size, 0, none⟩ = some (.slice so S.length sc)
 b1 : W.cell? ⟨w.heap.size, 1, none⟩ = some (.slice qo T.length tc)
 r0 : W.cell? ⟨w.heap.size + 1, 0, none⟩ = some (.slice none 0 0)
 r1 : W.cell? ⟨w.heap.size + 1, 1, none⟩ = some (.slice none 0 0)
 f0 : W.frozen? ⟨w.heap.size + 1, 0, none⟩ = false
 f1 : W.frozen? ⟨w.heap.size + 1, 1, none⟩ = false
theorem LSt.below {w W W' : World} {so qo : Option Addr} {sc tc : Nat} {S : List Int} {T : List (List Int)} (s : LSt w W so qo sc tc S T) (hb : Below W.heap.size W W') : LSt w W' so qo sc tc S T :=
 have h0 : w.heap.size < W.heap.size := by have := s.lt; omega
 ⟨s.bel.trans (hb.mono s.bel.size), Nat.lt_of_lt_of_le s.lt hb.size, (hb.cell (p := ⟨w.heap.size, 0, none⟩) h0).trans s.b0, (hb.cell (p := ⟨w.heap.size, 1, none⟩) h0).trans s.b1, (hb.cell (p := ⟨w.heap.size + 1, 0, none⟩) s.lt).trans s.r0, (hb.cell (p := ⟨w.heap.size + 1, 1, none⟩) s.lt).trans s.r1, (World.frozen?_of_block (a := ⟨w.heap.size + 1, 0, none⟩) (hb.block _ s.lt)).trans s.f0, (World.frozen?_of_block (a := ⟨w.heap.size + 1, 1, none⟩) (hb.block _ s.lt)).trans s.f1⟩
theorem l_start (w : World) (so qo : Option Addr) (sc tc : Nat) (S : List Int) (T : List (List Int)) : LSt w ((w.alloc (.cells #[.slice so S.length sc, .slice qo T.length tc] 39)).alloc (.cells #[.slice none 0 0, .slice none 0 0] 39)) so qo sc tc S T := by
 have e : (w.alloc (.cells #[.slice so S.length sc, .slice qo T.length tc] 39)).heap.size = w.heap.size + 1 := by simp
 refine ⟨((Below.refl _ _).alloc (Nat.le_refl _) _).alloc (by simp) _, by simp, ?_, cell2 w _ _ _ _, ?_, ?_, ?_, ?_⟩
 · rw [World.cell?_alloc_lt _ _ _ (by simp)]; simp
 · rw [← e]; simp
 · rw [← e]; simp
 · rw [← e]; simp
 · rw [← e]; simp
theorem nil_own (B : Nat) (W : World) : Memb.Own B W none 0 [] := ⟨rfl, .inl ⟨rfl, rfl⟩⟩
theorem nil_ll (B : Nat) (W : World) (f : At) : OwnLL B W (.slice none 0 0) [] f := ⟨⟨rfl, .inl ⟨rfl, rfl⟩⟩, fun i hi => by simp at hi, fun i j hij hj => by simp at hj⟩
set_option maxHeartbeats 6400000 in
theorem specLogged (g off cap : Nat) (L : List K) (ao : Option Addr) (cc : Nat) (C : List Int) (so qo : Option Addr) (sc tc : Nat) (S : List Int) (T : List (List Int)) (f : At) (s : Int) (w : World) (hcap : L.length ≤ cap) (hw : WordsOk L) (hg : g < w.heap.size) (hr : RdK w (some ⟨g, off, none⟩) L) (hC : C.length ≤ 1048576) (hrd : Lst.Rd w ao C) (hao : ∀ c, ao = some ⟨c, 0, none⟩ → c < w.heap.size) (hlog : RdL w so qo S T f) (hSN : so = none → sc = 0) (hN : ∀ i, i < T.length → (f i).1 = none → (f i).2 = 0) (hS : S.length ≤ 1048576) (hT : T.length ≤ 1048576) (hTT : ∀ i, i < T.length → (T.getD i []).length ≤ 1048576) :
   Calls Tryz.prog 21 #[.slice (some ⟨g, off, none⟩) L.length cap, .slice ao C.length cc, .agg #[.slice so S.length sc, .slice qo T.length tc], .int .i64 s] w (LoggedPost L C S T s w) := by
 have HLX : Hid (∀ (W : World) (a vo : Option Addr) (c vc : Nat) (S' : List Int) (T' : List (List Int)) (f' : At), Below w.heap.size w W → RdL W a vo S' T' f' → S'.length ≤ 1048576 → T'.length ≤ 1048576 → (∀ i, i < T'.length → (T'.getD i []).length ≤ 1048576) → Calls Tryz.prog 17 #[.slice (some ⟨g, off, none⟩) L.length cap, .slice ao C.length cc, .agg #[.slice a S'.length c, .slice vo T'.length vc]] W fun e w' => e = .returned (.bool (logB L C S' T')) ∧ Below W.heap.size W w') := fun W a vo c vc S' T' f' hW hl h1 h2 h3 => specLogOk g off cap L ao cc C a vo c vc S' T' f' W hcap hw (Nat.lt_of_lt_of_le hg hW.size) (hr.below hW) hC (Ch.rd_below hrd hao hW) (fun c e => Nat.lt_of_lt_of_le (hao c e) hW.size) hl h1 h2 h3
 have HLO : Hid (∀ W : World, Below w.heap.size w W → Calls Tryz.prog 17 #[.slice (some ⟨g, off, none⟩) L.length cap, .slice ao C.length cc, .agg #[.slice so S.length sc, .slice qo T.length tc]] W fun e w' => e = .returned (.bool (logB L C S T)) ∧ Below W.heap.size W w') := fun W hW => HLX.out W so qo sc tc S T f hW (hlog.below hW) hS hT hTT
 have HCP : Hid (∀ W : World, Below w.heap.size w W → Calls Tryz.prog 44 #[.agg #[.slice so S.length sc, .slice qo T.length tc]] W (CopyPost S T W)) := fun W hW => l15Copy so qo sc tc S T f W (hlog.below hW) hSN hN hS hT hTT
 have HCL : Hid (∀ W : World, Below w.heap.size w W → Calls Tryz.prog 38 #[.slice (some ⟨g, off, none⟩) L.length cap, .int .i64 s] W fun e w' => e = .returned (.bool (closedB L s)) ∧ Below W.heap.size W w') := fun W hW => Sg.specClosed g off cap L s W hcap hw (hr.below hW)
 have HOU : Hid (closedB L s = true → ∀ W : World, Below w.heap.size w W → Calls Tryz.prog 27 #[.slice (some ⟨g, off, none⟩) L.length cap, .slice ao C.length cc, .int .i64 s] W (NumsPost (outL L C s) W)) := fun hc W hW => l12OutA g off cap L ao cc C s W (closed_bd hc).1 (Nat.lt_of_lt_of_le hg hW.size) (hr.below hW) (Ch.rd_below hrd hao hW) (fun c e => Nat.lt_of_lt_of_le (hao c e) hW.size) (closed_bd hc).2.1 (closed_bd hc).2.2
 have HT60 : Hid (∀ i, i < T.length → (T.getD i []).length ≤ 1048576) := hTT
 have HS0 : Hid (LSt w ((w.alloc (.cells #[.slice so S.length sc, .slice qo T.length tc] 39)).alloc (.cells #[.slice none 0 0, .slice none 0 0] 39)) so qo sc tc S T) := l_start w so qo sc tc S T
 clear hcap hw hg hr hC hrd hao hlog hSN hN hTT
 go_enter Tryz.func21, Tryz.ntmps21
 go_upto_region 1 with fail
 generalize (w.alloc (.cells #[.slice so S.length sc, .slice qo T.length tc] 39)).alloc (.cells #[.slice none 0 0, .slice none 0 0] 39) = W0 at HS0 ⊢
 have b0 := HS0.out.b0
 have b1 := HS0.out.b1
 go_wp2_with fail
 refine (HLO.out W0 HS0.out.bel).mono ?_
 rintro e W1 ⟨rfl, hb1⟩
 have HS1 : Hid (LSt w W1 so qo sc tc S T) := HS0.out.below hb1
 clear hb1 HS0 b0 b1 HLO
 cases hlo : logB L C S T
 · have HT : Hid (seenL L C S T s = [] ∧ toldL L C S T s = [] ∧ goesB L C S T s = false) := by
     show _ ∧ _ ∧ _
     unfold seenL toldL goesB; rw [hlo]; exact ⟨rfl, rfl, rfl⟩
   have r0 := HS1.out.r0
   have r1 := HS1.out.r1
   have f0 := HS1.out.f0
   have f1 := HS1.out.f1
   obtain ⟨k1, k2, k3, k4, k5⟩ := fin_put (x := .slice none 0 0) (y := .slice none 0 0) (Nat.le_succ w.heap.size) HS1.out.bel r0 r1 f1
   clear hlo HLX HCP HCL HOU HT60
   go_wp2_with fail
   refine bodyPost_ret (v := .tuple #[.agg #[.slice none 0 0, .slice none 0 0], .bool false]) (by simp [results, Tryz.f21, go_sem, k3, k4]) rfl ?_
   unfold LoggedPost
   rw [HT.out.1, HT.out.2.1, HT.out.2.2]
   exact ⟨none, 0, none, 0, fun _ => (none, 0), rfl, nil_own _ _, nil_ll _ _ _, fun i hi => by simp at hi, k5⟩
 · obtain ⟨h40, hTS, _, hcn, _⟩ := log_parts hlo
   have HLG : Hid (logB L C S T = true) := hlo
   have HCN : Hid (Rm.coinsB C = true) := hcn
   have HTS : Hid (T.length = S.length) := hTS
   clear hTS
   have b0 := HS1.out.b0
   have b1 := HS1.out.b1
   clear hlo hcn
   go_wp2_with fail
   refine (HCP.out W1 HS1.out.bel).mono ?_
   rintro e W2 ⟨so1, sc1, vo1, vc1, f1, rfl, hO1, hL1, hA1, hb2⟩
   have HX3 : Hid (XSt (W2.alloc (.cells #[.slice so1 S.length sc1, .slice vo1 T.length vc1] 39)) W1.heap.size W2.heap.size so1 sc1 S vo1 vc1 T f1) := x_new hb2.size hO1 hL1 hA1
   have HS3 : Hid (LSt w (W2.alloc (.cells #[.slice so1 S.length sc1, .slice vo1 T.length vc1] 39)) so qo sc tc S T) := (HS1.out.below hb2).below ((Below.refl _ _).alloc (Nat.le_refl _) _)
   have hB1 : w.heap.size + 1 < W1.heap.size := HS1.out.lt
   clear hO1 hL1 hA1 hb2 b0 b1 HS1
   go_wp2_with fail
   generalize W2.alloc (.cells #[.slice so1 S.length sc1, .slice vo1 T.length vc1] 39) = W3 at HX3 HS3 ⊢
   generalize W2.heap.size = ob at HX3 ⊢
   generalize W1.heap.size = B1 at HX3 hB1
   refine (HCL.out W3 HS3.out.bel).mono ?_
   rintro e W4 ⟨rfl, hb4⟩
   have HX4 : Hid (XSt W4 B1 ob so1 sc1 S vo1 vc1 T f1) := HX3.out.below hb4
   have HS4 : Hid (LSt w W4 so qo sc tc S T) := HS3.out.below hb4
   clear hb4 HX3 HS3 HCL
   cases hcl : closedB L s
   · have HT : Hid (seenL L C S T s = S ∧ toldL L C S T s = T ∧ goesB L C S T s = false) := by
       have hgo : goesB L C S T s = false := by unfold goesB; rw [hcl]; simp
       show _ ∧ _ ∧ _
       unfold seenL toldL; rw [HLG.out, hgo]; exact ⟨rfl, rfl, rfl⟩
     have r0 := HS4.out.r0
     have r1 := HS4.out.r1
     have f0 := HS4.out.f0
     have f1' := HS4.out.f1
     have x0 := HX4.out.x0
     have x1 := HX4.out.x1
     obtain ⟨k1, k2, k3, k4, k5⟩ := fin_put (x := .slice so1 S.length sc1) (y := .slice vo1 T.length vc1) (Nat.le_succ w.heap.size) HS4.out.bel r0 r1 f1'
     have HF : Hid (_) := fin_own (w := w) (x := .slice so1 S.length sc1) (y := .slice vo1 T.length vc1) hB1 (by omega) HX4.out
     have HAP : Hid (_) := HX4.out.ap
     clear hcl HLX HCP HOU HT60 HLG HCN HX4 HS4
     go_wp2_with fail
     refine bodyPost_ret (v := .tuple #[.agg #[.slice so1 S.length sc1, .slice vo1 T.length vc1], .bool false]) (by simp [results, Tryz.f21, go_sem, k3, k4]) rfl ?_
     unfold LoggedPost
     rw [HT.out.1, HT.out.2.1, HT.out.2.2]
     exact ⟨so1, sc1, vo1, vc1, f1, rfl, HF.out.1, HF.out.2, HAP.out, k5⟩
   · have HOU2 : Hid (∀ W : World, Below w.heap.size w W → Calls Tryz.prog 27 #[.slice (some ⟨g, off, none⟩) L.length cap, .slice ao C.length cc, .int .i64 s] W (NumsPost (outL L C s) W)) := HOU.out hcl
     have hol := out_len hcl HCN.out
     have HCD : Hid (closedB L s = true) := hcl
     have b0 := HS4.out.b0
     have b1 := HS4.out.b1
     clear hcl HOU
     go_wp2_with fail
     refine (HCP.out W4 HS4.out.bel).mono ?_
     rintro e W5 ⟨so2, sc2, vo2, vc2, f2, rfl, hO2, hL2, hA2, hb5⟩
     have HX6 : Hid (XSt (W5.alloc (.cells #[.slice so2 S.length sc2, .slice vo2 T.length vc2] 39)) W4.heap.size W5.heap.size so2 sc2 S vo2 vc2 T f2) := x_new hb5.size hO2 hL2 hA2
     have HB6 : Hid (Below W4.heap.size W4 (W5.alloc (.cells #[.slice so2 S.length sc2, .slice vo2 T.length vc2] 39))) := hb5.alloc hb5.size _
     clear hO2 hL2 hA2 hb5 b0 b1 HCP
     go_upto_region 7 with fail
     generalize W5.alloc (.cells #[.slice so2 S.length sc2, .slice vo2 T.length vc2] 39) = W6 at HX6 HB6 ⊢
     generalize W5.heap.size = xb at HX6 ⊢
     obtain ⟨i0, hi0, hz0, hz1, hz2⟩ := info_parts Memb.info2
     obtain ⟨j0, hj0, hy0, hy1, hy2⟩ := info_parts infoS
     obtain ⟨S2, hS2⟩ : ∃ S2, S2 = S ++ [s] := ⟨_, rfl⟩
     have HS2 : Hid (S2 = S ++ [s]) := hS2
     have x0 := HX6.out.x0
     clear hS2
     go_wp2_with (first | (at_builtin; refine wpList_append_own_at _ rfl _ _ 23 rfl W4.heap.size 2 i0 (.int .i64 0) 1 8 Tryz.underlying23 hi0 hz0 hz1 hz2 rfl (by decide) (.slice so2 S.length sc2) S.length (S.map (Value.int .i64)) (by first | rfl | simp [Act.eval]) (World.ownsRow.alloc HX6.out.own _) ⟨W6.heap.size, 0, none⟩ 1 1 [.int .i64 s] (by first | rfl | simp [Act.eval]) rfl (Sg.one_new W6 s _) (Sg.one_one s) ?c3 ?c4 ?c5 ?_) | fail)
     case c3 => unfold maxLen; omega
     case c4 => omega
     case c5 => have := HB6.out.size; simp; omega
     intro v3 W7 h3 hg3 _ hat
     have hx := x_seen HX6.out HB6.out.size h3 hg3 (by simpa using hat)
     rw [← HS2.out] at hx
     obtain ⟨a3, c3, rfl, hX8, ⟨u, hu⟩, hfz, hB8⟩ := hx
     have HX8 : Hid (XSt (W7.setCell ⟨xb, 0, none⟩ (.slice a3 S2.length c3)) W4.heap.size xb a3 c3 S2 vo2 vc2 T f2) := hX8
     have HB8 : Hid (Below W4.heap.size W4 (W7.setCell ⟨xb, 0, none⟩ (.slice a3 S2.length c3))) := HB6.out.trans hB8
     clear h3 hg3 hat hX8 hB8 HX6 HB6 x0
     go_upto_region 8 with fail
     generalize W7.setCell ⟨xb, 0, none⟩ (.slice a3 S2.length c3) = W8 at HX8 HB8 ⊢
     clear hu hfz
     obtain ⟨ol, hol2⟩ : ∃ ol, ol = outL L C s := ⟨_, rfl⟩
     obtain ⟨T2, hT2⟩ : ∃ T2, T2 = T ++ [ol] := ⟨_, rfl⟩
     have HOL : Hid (ol = outL L C s) := hol2
     have HT2 : Hid (T2 = T ++ [ol]) := hT2
     rw [← hol2] at HOU2 hol
     have HDR : Hid (XSt W8.drew W4.heap.size xb a3 c3 S2 vo2 vc2 T f2) := HX8.out.below (Below.refl _ _).drew
     have HSZ : Hid (W4.heap.size ≤ W8.drew.heap.size) := HB8.out.size
     have HST : Hid (∀ (V1 V3 : World) (ro : Option Addr) (rc : Nat) (o : Obj) (v3 : Value), Below W8.drew.heap.size W8.drew V1 → Memb.Own W8.drew.heap.size V1 ro rc ol → V3.ownsRow W4.heap.size 23 1 v3 (T.length + 1) (vals f2 T ++ [.slice ro ol.length rc]) → (V1.alloc o).grownBy V3 (Value.slice vo2 T.length vc2).ownBlock → ∃ vo3 vc3, v3 = .slice vo3 T2.length vc3 ∧ (∃ f4, XSt (V3.setCell ⟨xb, 1, none⟩ (.slice vo3 T2.length vc3)) W4.heap.size xb a3 c3 S2 vo3 vc3 T2 f4) ∧ (∃ u, V3.cell? ⟨xb, 1, none⟩ = some u) ∧ V3.frozen? ⟨xb, 1, none⟩ = false ∧ Below W4.heap.size W4 (V3.setCell ⟨xb, 1, none⟩ (.slice vo3 T2.length vc3))) := fun V1 V3 ro rc o v3 b1 hO h3 hg => by
       obtain ⟨vo3, vc3, e, q1, q2, q3, q4⟩ := x_told HDR.out HSZ.out b1 hO h3 hg
       rw [← hT2] at e q1 q4
       exact ⟨vo3, vc3, e, ⟨_, q1⟩, q2, q3, HB8.out.drew.trans q4⟩
     have HRW : Hid (∀ X : World, XSt X W4.heap.size xb a3 c3 S2 vo2 vc2 T f2 → X.ownsRow W4.heap.size 23 1 (.slice vo2 T.length vc2) T.length (vals f2 T)) := fun X q => q.ll.row
     have HBW : Hid (∀ X : World, Below W4.heap.size W4 X → Below w.heap.size w X) := fun X q => HS4.out.bel.trans (q.mono HS4.out.bel.size)
     have y1 := HX8.out.x1
     clear hol2 hT2
     go_cut [9] from 12 to 48 (fun bv wx => bv = .bool false ∧ ∃ vo4 vc4 f4, Hid (XSt wx W4.heap.size xb a3 c3 S2 vo4 vc4 T2 f4) ∧ Hid (Below W4.heap.size W4 wx))
     case first =>
       generalize vals f2 T = xs at HST HRW
       go_region_law (first
         | (refine step_own_at rfl (.tmp 34) (.tmp 39) 34 rfl W4.heap.size 23 j0 (.slice none 0 0) 1 24 Tryz.underlying34 hj0 hy0 hy1 hy2 rfl (by decide) (.slice vo2 T.length vc2) T.length xs (by simp [Act.eval]) (HRW.out _ A2) ⟨V1.heap.size, 0, none⟩ 1 1 [.slice ro ol.length rc] (by simp [Act.eval]) rfl (one_newV V1 _ _) (one_sl _ _ _) (by unfold maxLen; omega) (by omega) (by have := HSZ.out; have := bV.size; simp; omega) ?_
            intro v4 V3 h4 hg4 _
            obtain ⟨vo4, vc4, rfl, ⟨f4, HX9⟩, ⟨u9, x9⟩, f9, B9⟩ := HST.out V1 V3 ro rc _ v4 bV hO h4 hg4)
         | (rw [if_pos (by simp [Region.wanted])]
            go_simp
            refine (HOU2.out _ (HBW.out _ (HB8.out.drew))).mono ?_
            rintro e V1 ⟨ro, rc, rfl, hO, bV⟩
            have A1 := HDR.out.below bV
            have A2 := A1.below ((Below.refl _ V1).alloc (Nat.le_refl _) (.cells #[.slice ro ol.length rc] 23))
            have d2 := A1.x1
            have e2 := A2.x1))
       all_goals go_wp2_with fail
       all_goals go_meet
       all_goals exact ⟨rfl, vo4, vc4, f4, HX9, B9⟩
     case rest =>
       obtain ⟨rfl, vo4, vc4, f4, HX9, HB9⟩ := hcut
       have hS2l : S2.length ≤ 1048576 := by rw [HS2.out]; simp; omega
       have hT2l : T2.length ≤ 1048576 := by rw [HT2.out]; have := HTS.out; simp; omega
       have HT3 : Hid (∀ i, i < T2.length → (T2.getD i []).length ≤ 1048576) := fun i hi => by
         rw [HT2.out] at hi ⊢
         rw [List.length_append, List.length_singleton] at hi
         by_cases e : i = T.length
         · subst e; rw [getD_last]; omega
         · rw [getD_snoc _ _ i (by omega)]; exact HT60.out i (by omega)
       have hcall := HLX.out wc a3 vo4 c3 vc4 S2 T2 f4 (HBW.out _ HB9.out) (own_log HX9.out.own HX9.out.ll).1 hS2l hT2l HT3.out
       have z0 := HX9.out.x0
       have z1 := HX9.out.x1
       clear HX8 HB8 HDR HSZ HST HRW y1 HLX HOU2
       go_wp2_with fail
       refine hcall.mono ?_
       rintro e W9 ⟨rfl, hb9⟩
       have HBX : Hid (Below W4.heap.size W4 W9) := HB9.out.trans (hb9.mono HB9.out.size)
       have HX10 : Hid (XSt W9 W4.heap.size xb a3 c3 S2 vo4 vc4 T2 f4) := HX9.out.below hb9
       have HX5 : Hid (XSt W9 B1 ob so1 sc1 S vo1 vc1 T f1) := HX4.out.below HBX.out
       have HS9 : Hid (LSt w W9 so qo sc tc S T) := HS4.out.below HBX.out
       have hrb4 : w.heap.size + 1 < W4.heap.size := HS4.out.lt
       have r0 := HS9.out.r0
       have r1 := HS9.out.r1
       have g0 := HS9.out.f0
       have g1 := HS9.out.f1
       clear hcall hb9 HB9 HX9 HX4 HS4 z0 z1 HBX HT3 hS2l hT2l
       cases hlx : logB L C S2 T2
       · have HT : Hid (seenL L C S T s = S ∧ toldL L C S T s = T ∧ goesB L C S T s = false) := by
           have hgo : goesB L C S T s = false := by unfold goesB; rw [← HOL.out, ← HS2.out, ← HT2.out, hlx]; simp
           show _ ∧ _ ∧ _
           unfold seenL toldL; rw [HLG.out, hgo]; exact ⟨rfl, rfl, rfl⟩
         have x0 := HX5.out.x0
         have x1 := HX5.out.x1
         obtain ⟨k1, k2, k3, k4, k5⟩ := fin_put (x := .slice so1 S.length sc1) (y := .slice vo1 T.length vc1) (Nat.le_succ w.heap.size) HS9.out.bel r0 r1 g1
         have HF : Hid (_) := fin_own (w := w) (x := .slice so1 S.length sc1) (y := .slice vo1 T.length vc1) hB1 (by omega) HX5.out
         have HAP : Hid (_) := HX5.out.ap
         clear hlx HLG HCN HCD HX10 HX5 HS9 HT60 HS2 HT2 HOL HTS
         go_wp2_with fail
         refine bodyPost_ret (v := .tuple #[.agg #[.slice so1 S.length sc1, .slice vo1 T.length vc1], .bool false]) (by simp [results, Tryz.f21, go_sem, k3, k4]) rfl ?_
         unfold LoggedPost
         rw [HT.out.1, HT.out.2.1, HT.out.2.2]
         exact ⟨so1, sc1, vo1, vc1, f1, rfl, HF.out.1, HF.out.2, HAP.out, k5⟩
       · have HT : Hid (seenL L C S T s = S2 ∧ toldL L C S T s = T2 ∧ goesB L C S T s = true) := by
           have hgo : goesB L C S T s = true := by unfold goesB; rw [← HOL.out, ← HS2.out, ← HT2.out, hlx, HLG.out, HCD.out]; rfl
           show _ ∧ _ ∧ _
           unfold seenL toldL; rw [HLG.out, hgo, ← HOL.out, ← HS2.out, ← HT2.out]; exact ⟨rfl, rfl, rfl⟩
         have x0 := HX10.out.x0
         have x1 := HX10.out.x1
         obtain ⟨k1, k2, k3, k4, k5⟩ := fin_put (x := .slice a3 S2.length c3) (y := .slice vo4 T2.length vc4) (Nat.le_succ w.heap.size) HS9.out.bel r0 r1 g1
         have HF : Hid (_) := fin_own (w := w) (x := .slice a3 S2.length c3) (y := .slice vo4 T2.length vc4) hrb4 (by omega) HX10.out
         have HAP : Hid (_) := HX10.out.ap
         clear hlx HLG HCN HCD HX10 HX5 HS9 HT60 HS2 HT2 HOL HTS
         go_wp2_with fail
         refine bodyPost_ret (v := .tuple #[.agg #[.slice a3 S2.length c3, .slice vo4 T2.length vc4], .bool true]) (by simp [results, Tryz.f21, go_sem, k3, k4]) rfl ?_
         unfold LoggedPost
         rw [HT.out.1, HT.out.2.1, HT.out.2.2]
         exact ⟨a3, c3, vo4, vc4, f4, rfl, HF.out.1, HF.out.2, HAP.out, k5⟩
end Lg
end Go.Proofs.YtjnhniffgeepjaaGreat
