/-
  What the model's Earlier, ChainOf and OnChain answer: from leader to leader; for coins of at most a million numbers and lists of knots whose words have at most 2^40 bytes.
-/
import Derived.Test.YtbbejgabhoedeaaFirmS
namespace Go.Proofs.Ytbbejgabhoedeaa
open Go.RowKit
set_option maxRecDepth 100000
namespace Ch
open Kn (K okK)
open Bit (bit withB)
open Lc (at' RdK WordsOk laceB)
open Sg (isB bel belows NumsPost)
open Db (RowI)
open Sl (sealS sealN)
open Rm (coinsB)

/-- the two tables of a lace: what is below, and who seals -/
structure TabsL (w : World) (L : List K) (bb h : Nat) : Prop where
  bel : ∀ i, i < L.length → w.cell? ⟨bb, i, none⟩ = some (.int .i64 (Sg.bel L i))
  sl : ∀ i, i < L.length → w.cell? ⟨h, i, none⟩ = some (.int .i64 (sealS L i L.length))
  lb : bb < w.heap.size
  lh : h < w.heap.size
theorem TabsL.below {w w' : World} {L : List K} {bb h : Nat} (t : TabsL w L bb h) (hb : Below w.heap.size w w') : TabsL w' L bb h :=
  ⟨fun i hi => (hb.cell (p := ⟨bb, i, none⟩) t.lb).trans (t.bel i hi), fun i hi => (hb.cell (p := ⟨h, i, none⟩) t.lh).trans (t.sl i hi), Nat.lt_of_lt_of_le t.lb hb.size, Nat.lt_of_lt_of_le t.lh hb.size⟩

theorem earI_step (L : List K) (C : List Int) (k n : Nat) : earI L C k (n + 1) = if earN L C k n && (decide (earI L C k n < 0) || decide ((at' L (earI L C k n).toNat).round < (at' L n).round)) then (n : Int) else earI L C k n := rfl
theorem earI_bd (L : List K) (C : List Int) (k n : Nat) : earI L C k n = -1 ∨ ∃ e : Nat, earI L C k n = (e : Int) ∧ e < n := by
  rcases ear_spec L C k n with ⟨h, _⟩ | ⟨e, h, he, _⟩
  · exact .inl h
  · exact .inr ⟨e, h, he⟩

set_option maxHeartbeats 12800000 in
theorem l10Earlier (g off cap : Nat) (L : List K) (ao : Option Addr) (cc : Nat) (C : List Int) (bb bc h hc : Nat) (k : Nat) (w : World) (hl : laceB L = true) (hg : g < w.heap.size) (hr : RdK w (some ⟨g, off, none⟩) L) (hrd : Lst.Rd w ao C) (hao : ∀ c, ao = some ⟨c, 0, none⟩ → c < w.heap.size) (ht : TabsL w L bb h) (hk : k < L.length) :
    Calls Try.prog 23 #[.slice (some ⟨g, off, none⟩) L.length cap, .slice ao C.length cc, .slice (some ⟨bb, 0, none⟩) L.length bc, .slice (some ⟨h, 0, none⟩) L.length hc, .int .i64 (k : Int)] w fun e w' => e = .returned (.int .i64 (earlierN L C k)) ∧ Below w.heap.size w w' := by
  have hL := ((Lc.lace_iff L).1 hl).1
  have HLC : Hid (laceB L = true) := hl
  have HRD : Hid (∀ W : World, Below w.heap.size w W → Lst.Rd W ao C ∧ ∀ c, ao = some ⟨c, 0, none⟩ → c < W.heap.size) := fun W hW => ⟨rd_below hrd hao hW, fun c e => Nat.lt_of_lt_of_le (hao c e) hW.size⟩
  have HR : Hid (RdK w (some ⟨g, off, none⟩) L) := hr
  have HT : Hid (TabsL w L bb h) := ht
  have hki : (k : Int) < (L.length : Int) := by omega
  clear hl hrd hao hr ht
  go_enter Try.func23, Try.ntmps23
  go_wp2
  go_loopw [11, 12] (fun o i wr => ∃ x : Nat, x ≤ k ∧ i = .int .i64 x ∧ o = .int .i64 (earI L C k x) ∧ Hid (Below w.heap.size w wr)) (fun _ i _ => k - (intOf i).toNat)
  case atStart => exact ⟨0, by omega, rfl, rfl, Below.refl _ _⟩
  case round =>
    obtain ⟨x, hx, rfl, rfl, HB⟩ := hrel
    by_cases hlt : x < k
    · have hxk : (x : Int) < (k : Int) := by omega
      have hxL : x < L.length := by omega
      have hxi : (x : Int) < (L.length : Int) := by omega
      have HST : Hid (earI L C k (x + 1) = if earN L C k x && (decide (earI L C k x < 0) || decide ((at' L (earI L C k x).toNat).round < (at' L x).round)) then (x : Int) else earI L C k x) := earI_step L C k x
      have HEN : Hid (earN L C k x = (bit (bel L k) x && (leadK C (at' L x) && sealN L k x))) := rfl
      have hbd := earI_bd L C k x
      have hgw : g < wr.heap.size := Nat.lt_of_lt_of_le hg HB.out.size
      obtain ⟨_, c0, c1, c2, c3⟩ := (HR.out.below HB.out).on x hxL
      have hrb := Lc.ok_round (Lc.can_ok (Lc.lace_upTo HLC.out x hxL))
      have HT1 := HT.out.below HB.out
      have t1 := HT1.bel k hk
      have t2 := HT1.sl x hxL
      have tl1 := HT1.lb
      have tl2 := HT1.lh
      have hbb := Sg.bel_bd L k (by omega)
      have hsb := Sl.sealS_bd L x L.length hL
      have HHA : Hid (∀ (W : World) (f : Int) (i : Nat) (v : Bool), ((f = bel L k ∧ i = x ∧ v = bit (bel L k) x) ∨ (f = sealS L x L.length ∧ i = k ∧ v = sealN L k x)) → Calls Try.prog 38 #[.int .i64 f, .int .i64 (i : Int)] W fun e w' => e = .returned (.bool v) ∧ W = w') := fun W f i v hq => by
        rcases hq with ⟨rfl, rfl, rfl⟩ | ⟨rfl, rfl, rfl⟩
        · exact (Db.has_call _ i _ hbb.1 hbb.2 (by omega) rfl W).mono fun _ _ q => ⟨q.1, q.2.symm⟩
        · exact (Db.has_call _ i _ hsb.1 hsb.2 (by omega) (by rw [Sl.bit_sealS L x _ hL, decide_eq_true hk]; rfl) W).mono fun _ _ q => ⟨q.1, q.2.symm⟩
      have HLD : Hid (∀ W : World, Below wr.heap.size wr W → Calls Try.prog 39 #[.slice ao C.length cc, .agg #[.int .i64 (at' L x).hand, .int .i64 (at' L x).round, .int .i64 (at' L x).frm, .string (at' L x).word]] W fun e w' => e = .returned (.bool (leadK C (at' L x))) ∧ Below W.heap.size W w') := fun W hW => by
        have hB := HB.out.trans (hW.mono HB.out.size)
        exact l8Leads ao cc C (at' L x) W hrb.1 (by omega) (HRD.out W hB).1 (HRD.out W hB).2
      clear HT1 hbb hsb
      generalize bel L k = yb at t1 HHA HEN
      generalize sealS L x L.length = ys at t2 HHA
      generalize bit yb x = b1 at HEN HHA
      generalize sealN L k x = b3 at HEN HHA
      have HRO : Hid (∀ e : Nat, e < x → wr.cell? ⟨g, off + e * 4 + 1, none⟩ = some (.int .i64 (at' L e).round)) := fun e he => by obtain ⟨_, _, q, _, _⟩ := (HR.out.below HB.out).on e (by omega); exact q
      generalize hkk : at' L x = kk at c0 c1 c2 c3 HLD HEN HST hrb
      generalize leadK C kk = b2 at HEN HLD
      have HCASE : Hid (earI L C k x = -1 ∨ ∃ e : Nat, earI L C k x = (e : Int) ∧ e < x) := hbd
      generalize earI L C k x = eo at HST HCASE ⊢
      clear hbd hkk
      obtain ⟨X, _, F, HF, HG⟩ := Fam.fam wr
      have d0 : ∀ z, (F z).cell? ⟨g, off + x * 4, none⟩ = some (.int .i64 kk.hand) := fun z => ((HF.out z).cell (p := ⟨g, off + x * 4, none⟩) hgw).trans c0
      have d1 : ∀ z, (F z).cell? ⟨g, off + x * 4 + 1, none⟩ = some (.int .i64 kk.round) := fun z => ((HF.out z).cell (p := ⟨g, off + x * 4 + 1, none⟩) hgw).trans c1
      have d2 : ∀ z, (F z).cell? ⟨g, off + x * 4 + 2, none⟩ = some (.int .i64 kk.frm) := fun z => ((HF.out z).cell (p := ⟨g, off + x * 4 + 2, none⟩) hgw).trans c2
      have d3 : ∀ z, (F z).cell? ⟨g, off + x * 4 + 3, none⟩ = some (.string kk.word) := fun z => ((HF.out z).cell (p := ⟨g, off + x * 4 + 3, none⟩) hgw).trans c3
      have s1 : ∀ z, (F z).cell? ⟨bb, k, none⟩ = some (.int .i64 yb) := fun z => ((HF.out z).cell (p := ⟨bb, k, none⟩) tl1).trans t1
      have s2 : ∀ z, (F z).cell? ⟨h, x, none⟩ = some (.int .i64 ys) := fun z => ((HF.out z).cell (p := ⟨h, x, none⟩) tl2).trans t2
      clear c0 c1 c2 c3 t1 t2
      cases b1
      · have HD : Hid (earI L C k (x + 1) = eo) := by show _ = _; rw [HST.out, HEN.out]; simp
        clear HST HEN HCASE HLD
        go_wp2_with fail
        refine Fam.region (F := F) (by kernel_rfl) (by kernel_rfl) (HG.out _ (Below.refl _ wr).drew) ?_
        repeat (go_big_quiet_step (first
          | (go_at_call 38; exact (HHA.out _ _ _ _ (by first | exact .inl ⟨rfl, rfl, rfl⟩ | exact .inr ⟨rfl, rfl, rfl⟩)).mono fun _ _ q => ⟨q.1, _, q.2.symm⟩)))
        refine wpQuiet_nil ?_
        intro w2 hw2
        obtain ⟨z, rfl⟩ := hw2
        have HB2 : Hid (Below w.heap.size w (F z)) := HB.out.trans ((HF.out z).mono HB.out.size)
        clear HB
        go_wp2
        go_roundw
        case rel => exact ⟨x + 1, by omega, by go_num, by rw [HD.out], HB2⟩
        case measure => simp [intOf]; omega
      · cases b2
        · have HD : Hid (earI L C k (x + 1) = eo) := by show _ = _; rw [HST.out, HEN.out]; simp
          clear HST HEN HCASE
          go_wp2_with fail
          refine Fam.region (F := F) (by kernel_rfl) (by kernel_rfl) (HG.out _ (Below.refl _ wr).drew) ?_
          repeat (go_big_quiet_step (first
            | (go_at_call 38; exact (HHA.out _ _ _ _ (by first | exact .inl ⟨rfl, rfl, rfl⟩ | exact .inr ⟨rfl, rfl, rfl⟩)).mono fun _ _ q => ⟨q.1, _, q.2.symm⟩)
            | (go_at_call 39; exact (HLD.out _ (HF.out _)).mono fun _ _ q => ⟨q.1, HG.out _ ((HF.out _).trans (q.2.mono (HF.out _).size))⟩)))
          refine wpQuiet_nil ?_
          intro w2 hw2
          obtain ⟨z, rfl⟩ := hw2
          have HB2 : Hid (Below w.heap.size w (F z)) := HB.out.trans ((HF.out z).mono HB.out.size)
          clear HB
          go_wp2
          go_roundw
          case rel => exact ⟨x + 1, by omega, by go_num, by rw [HD.out], HB2⟩
          case measure => simp [intOf]; omega
        · cases b3
          · have HD : Hid (earI L C k (x + 1) = eo) := by show _ = _; rw [HST.out, HEN.out]; simp
            clear HST HEN HCASE
            go_wp2_with fail
            refine Fam.region (F := F) (by kernel_rfl) (by kernel_rfl) (HG.out _ (Below.refl _ wr).drew) ?_
            repeat (go_big_quiet_step (first
              | (go_at_call 38; exact (HHA.out _ _ _ _ (by first | exact .inl ⟨rfl, rfl, rfl⟩ | exact .inr ⟨rfl, rfl, rfl⟩)).mono fun _ _ q => ⟨q.1, _, q.2.symm⟩)
              | (go_at_call 39; exact (HLD.out _ (HF.out _)).mono fun _ _ q => ⟨q.1, HG.out _ ((HF.out _).trans (q.2.mono (HF.out _).size))⟩)))
            refine wpQuiet_nil ?_
            intro w2 hw2
            obtain ⟨z, rfl⟩ := hw2
            have HB2 : Hid (Below w.heap.size w (F z)) := HB.out.trans ((HF.out z).mono HB.out.size)
            clear HB
            go_wp2
            go_roundw
            case rel => exact ⟨x + 1, by omega, by go_num, by rw [HD.out], HB2⟩
            case measure => simp [intOf]; omega
          · rcases HCASE.out with e | ⟨e, rfl, hex⟩
            · subst e
              have HD : Hid (earI L C k (x + 1) = (x : Int)) := by show _ = _; rw [HST.out, HEN.out]; simp
              clear HST HEN HCASE
              go_wp2_with fail
              refine Fam.region (F := F) (by kernel_rfl) (by kernel_rfl) (HG.out _ (Below.refl _ wr).drew) ?_
              repeat (go_big_quiet_step (first
                | (go_at_call 38; exact (HHA.out _ _ _ _ (by first | exact .inl ⟨rfl, rfl, rfl⟩ | exact .inr ⟨rfl, rfl, rfl⟩)).mono fun _ _ q => ⟨q.1, _, q.2.symm⟩)
                | (go_at_call 39; exact (HLD.out _ (HF.out _)).mono fun _ _ q => ⟨q.1, HG.out _ ((HF.out _).trans (q.2.mono (HF.out _).size))⟩)))
              refine wpQuiet_nil ?_
              intro w2 hw2
              obtain ⟨z, rfl⟩ := hw2
              have HB2 : Hid (Below w.heap.size w (F z)) := HB.out.trans ((HF.out z).mono HB.out.size)
              clear HB
              go_wp2
              go_roundw
              case rel => exact ⟨x + 1, by omega, by go_num, by rw [HD.out], HB2⟩
              case measure => simp [intOf]; omega
            · have ce := HRO.out e hex
              have d5 : ∀ z, (F z).cell? ⟨g, off + e * 4 + 1, none⟩ = some (.int .i64 (at' L e).round) := fun z => ((HF.out z).cell (p := ⟨g, off + e * 4 + 1, none⟩) hgw).trans ce
              have hei : (e : Int) < (L.length : Int) := by omega
              have he0 : decide ((e : Int) < 0) = false := decide_eq_false (by omega)
              rw [Int.toNat_natCast] at HST
              generalize (at' L e).round = er at HST d5
              clear ce
              by_cases hrr : er < kk.round
              · have HD : Hid (earI L C k (x + 1) = (x : Int)) := by show _ = _; rw [HST.out, HEN.out]; simp [hrr]
                clear HST HEN HCASE HRO
                go_wp2_with fail
                refine Fam.region (F := F) (by kernel_rfl) (by kernel_rfl) (HG.out _ (Below.refl _ wr).drew) ?_
                repeat (go_big_quiet_step (first
                  | (go_at_call 38; exact (HHA.out _ _ _ _ (by first | exact .inl ⟨rfl, rfl, rfl⟩ | exact .inr ⟨rfl, rfl, rfl⟩)).mono fun _ _ q => ⟨q.1, _, q.2.symm⟩)
                  | (go_at_call 39; exact (HLD.out _ (HF.out _)).mono fun _ _ q => ⟨q.1, HG.out _ ((HF.out _).trans (q.2.mono (HF.out _).size))⟩)))
                refine wpQuiet_nil ?_
                intro w2 hw2
                obtain ⟨z, rfl⟩ := hw2
                have HB2 : Hid (Below w.heap.size w (F z)) := HB.out.trans ((HF.out z).mono HB.out.size)
                clear HB
                go_wp2
                go_roundw
                case rel => exact ⟨x + 1, by omega, by go_num, by rw [HD.out], HB2⟩
                case measure => simp [intOf]; omega
              · have HD : Hid (earI L C k (x + 1) = (e : Int)) := by show _ = _; rw [HST.out, HEN.out]; simp; omega
                clear HST HEN HCASE HRO
                go_wp2_with fail
                refine Fam.region (F := F) (by kernel_rfl) (by kernel_rfl) (HG.out _ (Below.refl _ wr).drew) ?_
                repeat (go_big_quiet_step (first
                  | (go_at_call 38; exact (HHA.out _ _ _ _ (by first | exact .inl ⟨rfl, rfl, rfl⟩ | exact .inr ⟨rfl, rfl, rfl⟩)).mono fun _ _ q => ⟨q.1, _, q.2.symm⟩)
                  | (go_at_call 39; exact (HLD.out _ (HF.out _)).mono fun _ _ q => ⟨q.1, HG.out _ ((HF.out _).trans (q.2.mono (HF.out _).size))⟩)))
                refine wpQuiet_nil ?_
                intro w2 hw2
                obtain ⟨z, rfl⟩ := hw2
                have HB2 : Hid (Below w.heap.size w (F z)) := HB.out.trans ((HF.out z).mono HB.out.size)
                clear HB
                go_wp2
                go_roundw
                case rel => exact ⟨x + 1, by omega, by go_num, by rw [HD.out], HB2⟩
                case measure => simp [intOf]; omega
    · obtain rfl : x = k := by omega
      have HE : Hid (earI L C x x = earlierN L C x) := rfl
      rw [HE.out]
      go_wp2
      go_ret
      exact ⟨rfl, HB.out⟩

/-- the chain so far, in memory of the call's own -/
structure ChSt (w wr : World) (v : Value) (l : List Int) : Prop where
  shape : ∃ gg cp, v = .slice (some ⟨gg, 0, none⟩) l.length cp ∧ Memb.Own w.heap.size wr (some ⟨gg, 0, none⟩) cp l
  bel : Below w.heap.size w wr
theorem chSt_start (w : World) : ChSt w (w.alloc (.cells #[] 2)) (.slice (some ⟨w.heap.size, 0, none⟩) 0 0) [] := ⟨⟨_, _, rfl, Memb.own_empty w⟩, (Below.refl _ _).alloc (Nat.le_refl _) _⟩
theorem chSt_put {w wr w3 : World} {v' : Value} {l : List Int} {x : Int} {o : Obj} (hB : Below w.heap.size w wr) (ho : w3.ownsRow w.heap.size 2 1 v' (1 + l.length) ([.int .i64 x] ++ l.map (Value.int .i64))) (hg : (wr.alloc o).grownBy w3 (some wr.heap.size)) (hn : ¬ v' = .slice none 0 0) : ChSt w w3 v' (x :: l) := by
  refine ⟨?_, (hB.alloc hB.size o).grown hg (by simp; have := hB.size; omega) (fun j hj => by cases hj; exact hB.size)⟩
  have ho' : w3.ownsRow w.heap.size 2 1 v' (x :: l).length ((x :: l).map (Value.int .i64)) := by
    rw [show (x :: l).length = 1 + l.length by simp; omega]; exact ho
  obtain ⟨ao, cap, hv, hown⟩ := Memb.own_shape ho'
  rcases ao with _ | a
  · obtain ⟨_, ⟨hx, _⟩ | ⟨gg, cp, cur, hx, _⟩⟩ := ho'
    · exact absurd hx hn
    · rw [hv] at hx; injection hx with hx _; exact absurd hx (by simp)
  · obtain ⟨_, ⟨hx, _⟩ | ⟨gg, cp, cur, hx, _⟩⟩ := ho'
    · exact absurd hx hn
    · rw [hv] at hx
      injection hx with hx _ hc
      injection hx with hx
      subst hx hc
      exact ⟨gg, cap, hv, hown⟩

set_option maxHeartbeats 3200000 in
theorem l10Chain (g off cap : Nat) (L : List K) (ao : Option Addr) (cc : Nat) (C : List Int) (bb bc h hc : Nat) (k : Nat) (w : World) (hl : laceB L = true) (hg : g < w.heap.size) (hr : RdK w (some ⟨g, off, none⟩) L) (hrd : Lst.Rd w ao C) (hao : ∀ c, ao = some ⟨c, 0, none⟩ → c < w.heap.size) (ht : TabsL w L bb h) (hk : k < L.length) :
    Calls Try.prog 29 #[.slice (some ⟨g, off, none⟩) L.length cap, .slice ao C.length cc, .slice (some ⟨bb, 0, none⟩) L.length bc, .slice (some ⟨h, 0, none⟩) L.length hc, .int .i64 (k : Int)] w (NumsPost (chainL L C (k : Int)) w) := by
  obtain ⟨i0, hi, hz0, hz1, hz2⟩ := info_parts Memb.info2
  have hL := ((Lc.lace_iff L).1 hl).1
  have HEAR : Hid (∀ (W : World) (p : Nat), Below w.heap.size w W → p < L.length → Calls Try.prog 23 #[.slice (some ⟨g, off, none⟩) L.length cap, .slice ao C.length cc, .slice (some ⟨bb, 0, none⟩) L.length bc, .slice (some ⟨h, 0, none⟩) L.length hc, .int .i64 (p : Int)] W fun e w' => e = .returned (.int .i64 (earlierN L C p)) ∧ Below W.heap.size W w') := fun W p hW hp =>
    l10Earlier g off cap L ao cc C bb bc h hc p W hl (Nat.lt_of_lt_of_le hg hW.size) (hr.below hW) (rd_below hrd hao hW) (fun c e => Nat.lt_of_lt_of_le (hao c e) hW.size) (ht.below hW) hp
  have HLEN : Hid (∀ (kc : Int) (l : List Int), chainL L C (k : Int) = chainL L C kc ++ l → l.length ≤ k + 1) := fun kc l e => by
    have h1 := chain_len L C (k : Int)
    rw [e] at h1
    simp at h1
    omega
  clear hl hr hrd hao ht
  go_enter Try.func29, Try.ntmps29
  go_wp2
  go_loopw [4, 11] (fun kv v wr => ∃ (kc : Int) (l : List Int), kv = .int .i64 kc ∧ (-1 ≤ kc ∧ kc < (L.length : Int)) ∧ Hid (chainL L C (k : Int) = chainL L C kc ++ l) ∧ Hid (ChSt w wr v l)) (fun kv _ _ => (intOf kv + 1).toNat)
  case atStart => exact ⟨(k : Int), [], rfl, by omega, by show _ = _; rw [List.append_nil], chSt_start w⟩
  case round =>
    obtain ⟨kc, l, rfl, hkc, HCH, HS⟩ := hrel
    have hll := HLEN.out kc l HCH.out
    by_cases hn : 0 ≤ kc
    · obtain ⟨p, rfl⟩ := Int.eq_ofNat_of_zero_le hn
      have hp : p < L.length := by omega
      have hlt := earlier_lt L C p
      have hge : -1 ≤ earlierN L C p := by rcases earI_bd L C p p with e | ⟨e, he, _⟩ <;> unfold earlierN <;> omega
      have HCH2 : Hid (chainL L C (k : Int) = chainL L C (earlierN L C p) ++ ((p : Int) :: l)) := by
        show _ = _; rw [HCH.out, chain_step, List.append_assoc]; rfl
      obtain ⟨gg, cp, hv, hown⟩ := HS.out.shape
      subst hv
      have hrd1 := Lst.own_rd hown
      have hgg := (World.ownsRow.lt hown gg rfl).2
      have HLIT : Hid ((wr.alloc (.cells #[.int .i64 (p : Int)] 2)).ownsRow w.heap.size 2 1 (.slice (some ⟨wr.heap.size, 0, none⟩) 1 1) 1 [.int .i64 (p : Int)]) := World.ownsRow_lit wr #[.int .i64 (p : Int)] 1 HS.out.bel.size (by unfold maxLen; omega) rfl
      have HNEW : Hid (∀ (j : Nat) u, (l.map (Value.int .i64))[j]? = some u → (wr.alloc (.cells #[.int .i64 (p : Int)] 2)).cell? ((⟨gg, 0, none⟩ : Addr).add j) = some u) := fun j u hu => by
        rw [List.getElem?_map] at hu
        rcases hj : l[j]? with _ | y
        · rw [hj] at hu; simp at hu
        · rw [hj] at hu
          simp at hu
          subst hu
          have hjl : j < l.length := (List.getElem?_eq_some_iff.1 hj).1
          rcases hrd1 with e | ⟨g2, e, hcell⟩
          · rw [e] at hjl; simp at hjl
          · injection e with e; injection e with e; subst e
            have := hcell j hjl
            rw [show l.getD j 0 = y by simp [List.getD, hj]] at this
            rw [show (⟨gg, 0, none⟩ : Addr).add j = ⟨gg, j, none⟩ by simp [Addr.add]; intro e; exact e.symm, World.cell?_alloc_lt _ _ _ hgg]
            exact this
      have HONE : Hid (∀ u ∈ l.map (Value.int .i64), u.oneCell' = true) := fun u hu => by
        obtain ⟨y, _, rfl⟩ := List.mem_map.1 hu; rfl
      have HBW : Hid (Below w.heap.size w wr) := HS.out.bel
      clear hown hrd1
      go_wp2_with (first | (at_builtin; refine wpList_append_own _ rfl _ _ 23 rfl w.heap.size 2 i0 (.int .i64 0) 1 8 Try.underlying23 hi hz0 hz1 hz2 rfl (by decide) (.slice (some ⟨wr.heap.size, 0, none⟩) 1 1) 1 [.int .i64 (p : Int)] (by first | rfl | simp [Act.eval]) HLIT.out ⟨gg, 0, none⟩ l.length cp (l.map (Value.int .i64)) (by first | rfl | simp [Act.eval]) (by simp) HNEW.out HONE.out ?c3 ?c4 ?c5 ?_) | fail)
      case c3 => unfold maxLen; omega
      case c4 => omega
      case c5 => have := HBW.out.size; simp; omega
      intro v' w3 hown' hgrow hnil
      have HS3 : Hid (ChSt w w3 v' ((p : Int) :: l)) := chSt_put HBW.out hown' hgrow hnil
      clear hown' hgrow hnil HS HLIT HNEW HONE HBW
      have hcall := HEAR.out w3 p HS3.out.bel hp
      go_wp2_with fail
      refine hcall.mono ?_
      rintro e w4 ⟨rfl, hb4⟩
      have HS4 : Hid (ChSt w w4 v' ((p : Int) :: l)) := by
        obtain ⟨g4, c4, e4, o4⟩ := HS3.out.shape
        exact ⟨⟨g4, c4, e4, Lst.own_below o4 hb4⟩, HS3.out.bel.trans (hb4.mono HS3.out.bel.size)⟩
      clear hb4 HS3 hcall
      go_wp2
      go_roundw
      case rel => exact ⟨earlierN L C p, (p : Int) :: l, rfl, by omega, HCH2, HS4⟩
      case measure => simp [intOf]; omega
    · have HE : Hid (chainL L C (k : Int) = l) := by show _ = _; rw [HCH.out, chain_neg L C (by omega)]; rfl
      obtain ⟨gg, cp, hv, hown⟩ := HS.out.shape
      have HV : Hid (u11 = .slice (some ⟨gg, 0, none⟩) l.length cp) := hv
      have HF : Hid (Memb.Own w.heap.size wr (some ⟨gg, 0, none⟩) cp l ∧ Below w.heap.size w wr) := ⟨hown, HS.out.bel⟩
      clear hv hown HS HCH
      go_wp2
      go_ret
      exact ⟨some ⟨gg, 0, none⟩, cp, by rw [HE.out, ← HV.out]; rfl, by rw [HE.out]; exact HF.out.1, HF.out.2⟩

/-- the model's two tables of a lace that has a knot -/
theorem tables (g off cap : Nat) (L : List K) (w : World) (hl : laceB L = true) (hN : 0 < L.length) (hr : RdK w (some ⟨g, off, none⟩) L) :
    Calls Try.prog 22 #[.slice (some ⟨g, off, none⟩) L.length cap] w fun e w' => ∃ bb bc, e = .returned (.slice (some ⟨bb, 0, none⟩) L.length bc) ∧ Below w.heap.size w w' ∧
      Calls Try.prog 24 #[.slice (some ⟨g, off, none⟩) L.length cap, .slice (some ⟨bb, 0, none⟩) L.length bc] w' fun e2 w2 => ∃ h, e2 = .returned (.slice (some ⟨h, 0, none⟩) L.length L.length) ∧ TabsL w2 L bb h ∧ Below w'.heap.size w' w2 := by
  have h60 := ((Lc.lace_iff L).1 hl).1
  refine (Sg.l4All (some ⟨g, off, none⟩) cap L w h60 (Sg.frm_lace hl) hr).mono ?_
  rintro e w1 ⟨bo, bc, rfl, hown, hb1⟩
  have hbl := Sg.belows_len L L.length
  have hrd := Lst.own_rd hown
  rcases hrd with e | ⟨bb, e, hcell⟩
  · rw [e] at hbl; simp at hbl; omega
  · subst e
    have hlt := (World.ownsRow.lt hown bb rfl).2
    refine ⟨bb, bc, by rw [hbl], hb1, ?_⟩
    refine (Sl.l7All g off cap L (some ⟨bb, 0, none⟩) bc w1 hl (hr.below hb1) (Lst.own_rd hown) (fun g' e => by injection e with e; injection e with e; subst e; exact hlt)).mono ?_
    rintro e w2 ⟨h, O, rfl, _, hrow, hO, hb2⟩
    refine ⟨h, rfl, ⟨fun i hi => ?_, fun i hi => by rw [← hO i hi]; exact hrow.rd i hi, Nat.lt_of_lt_of_le hlt hb2.size, hrow.lt⟩, hb2⟩
    rw [(hb2.cell (p := ⟨bb, i, none⟩) hlt)]
    have := hcell i (by rw [hbl]; exact hi)
    rwa [Sg.belows_get L L.length i hi] at this

/-- a knot, and coins -/
def onB (L : List K) (C : List Int) (k : Int) : Bool := isB L k && coinsB C
/-- the document's Earlier -/
def earlierI (L : List K) (C : List Int) (k : Int) : Int := if onB L C k then earlierN L C k.toNat else -1
/-- the document's ChainOf -/
def chainI (L : List K) (C : List Int) (k : Int) : List Int := if onB L C k then chainL L C k else []

set_option maxHeartbeats 800000 in
theorem l10Right (g off cap : Nat) (L : List K) (ao : Option Addr) (cc : Nat) (C : List Int) (k : Int) (w : World) (hcap : L.length ≤ cap) (hw : WordsOk L) (hr : RdK w (some ⟨g, off, none⟩) L) (hC : C.length ≤ 1048576) (hrd : Lst.Rd w ao C) (hao : ∀ c, ao = some ⟨c, 0, none⟩ → c < w.heap.size) :
    Calls Try.prog 21 #[.slice (some ⟨g, off, none⟩) L.length cap, .slice ao C.length cc, .int .i64 k] w fun e w' => e = .returned (.bool (onB L C k)) ∧ Below w.heap.size w w' := by
  go_enter Try.func21, Try.ntmps21
  go_wp2_with fail
  refine (Sg.l4Is g off cap L k _ hcap hw hr).mono ?_
  rintro e w1 ⟨rfl, hb1⟩
  have hcall := Rm.specCoinsOk ao cc C w1 hC (rd_below hrd hao hb1)
  have HT : Hid (onB L C k = (isB L k && coinsB C)) := rfl
  clear hrd hao hr
  generalize isB L k = b1 at HT ⊢
  generalize coinsB C = b2 at HT hcall
  cases b1
  · clear hcall
    go_wp2
    go_ret
    exact ⟨by rw [HT.out]; rfl, hb1⟩
  · go_wp2_with (go_at_call 36; refine hcall.mono ?_; rintro e w' ⟨rfl, rfl⟩)
    go_ret
    exact ⟨by rw [HT.out]; rfl, hb1⟩

set_option maxHeartbeats 1600000 in
theorem specEarlier (g off cap : Nat) (L : List K) (ao : Option Addr) (cc : Nat) (C : List Int) (k : Int) (w : World) (hcap : L.length ≤ cap) (hw : WordsOk L) (hg : g < w.heap.size) (hr : RdK w (some ⟨g, off, none⟩) L) (hC : C.length ≤ 1048576) (hrd : Lst.Rd w ao C) (hao : ∀ c, ao = some ⟨c, 0, none⟩ → c < w.heap.size) :
    Calls Try.prog 7 #[.slice (some ⟨g, off, none⟩) L.length cap, .slice ao C.length cc, .int .i64 k] w fun e w' => e = .returned (.int .i64 (earlierI L C k)) ∧ Below w.heap.size w w' := by
  have HRD : Hid (∀ W : World, Below w.heap.size w W → Lst.Rd W ao C ∧ ∀ c, ao = some ⟨c, 0, none⟩ → c < W.heap.size) := fun W hW => ⟨rd_below hrd hao hW, fun c e => Nat.lt_of_lt_of_le (hao c e) hW.size⟩
  have hcall := l10Right g off cap L ao cc C k w hcap hw hr hC hrd hao
  have HR : Hid (RdK w (some ⟨g, off, none⟩) L) := hr
  clear hrd hao hr
  go_enter Try.func7, Try.ntmps7
  go_wp2_with fail
  refine hcall.mono ?_
  rintro e w1 ⟨rfl, hb1⟩
  clear hcall
  cases hq : onB L C k
  · have HT : Hid (earlierI L C k = -1) := by show _ = _; unfold earlierI; rw [hq]; rfl
    clear hq
    go_wp2
    go_ret
    exact ⟨by rw [HT.out]; rfl, hb1⟩
  · have HT : Hid (earlierI L C k = earlierN L C k.toNat) := by show _ = _; unfold earlierI; rw [hq]; rfl
    unfold onB at hq
    rw [Bool.and_eq_true] at hq
    obtain ⟨k0, k1, hlc⟩ := Sg.isB_parts hq.1
    have HLC : Hid (laceB L = true) := hlc
    clear hq hlc
    obtain ⟨p, rfl⟩ := Int.eq_ofNat_of_zero_le k0
    have hp : p < L.length := by omega
    rw [Int.toNat_natCast] at HT
    go_wp2_with fail
    refine (tables g off cap L _ HLC.out (by omega) (HR.out.below hb1)).mono ?_
    rintro e w2 ⟨bb, bc, rfl, hb2, h7⟩
    have hB2 := hb1.trans (hb2.mono hb1.size)
    clear hb1 hb2
    go_wp2_with fail
    refine h7.mono ?_
    rintro e w3 ⟨h, rfl, hT, hb3⟩
    have hB3 := hB2.trans (hb3.mono hB2.size)
    have hE := l10Earlier g off cap L ao cc C bb bc h L.length p w3 HLC.out (Nat.lt_of_lt_of_le hg hB3.size) (HR.out.below hB3) (HRD.out w3 hB3).1 (HRD.out w3 hB3).2 hT hp
    clear hb3 hB2 h7 hT
    go_wp2_with fail
    refine hE.mono ?_
    rintro e w4 ⟨rfl, hb4⟩
    have hB4 := hB3.trans (hb4.mono hB3.size)
    clear hE hb4 hB3
    go_wp2
    go_ret
    exact ⟨by rw [HT.out]; rfl, hB4⟩

theorem own_base {B B' : Nat} {w : World} {ao : Option Addr} {cap : Nat} {l : List Int} (h : Memb.Own B w ao cap l) (hb : B' ≤ B) : Memb.Own B' w ao cap l := by
  obtain ⟨a1, a2⟩ := h
  refine ⟨a1, ?_⟩
  rcases a2 with a2 | ⟨g2, c2, cur, e1, e2, rest⟩
  · exact .inl a2
  · exact .inr ⟨g2, c2, cur, e1, Nat.le_trans hb e2, rest⟩
/-- an empty list of the call's own -/
theorem nums_nil {w w1 : World} (hb1 : Below w.heap.size w w1) : Memb.Own w.heap.size (w1.alloc (.cells #[] 2)) (some ⟨w1.heap.size, 0, none⟩) 0 [] ∧ Below w.heap.size w (w1.alloc (.cells #[] 2)) := ⟨own_base (Memb.own_empty w1) hb1.size, hb1.alloc hb1.size _⟩

set_option maxHeartbeats 1600000 in
theorem specChainOf (g off cap : Nat) (L : List K) (ao : Option Addr) (cc : Nat) (C : List Int) (k : Int) (w : World) (hcap : L.length ≤ cap) (hw : WordsOk L) (hg : g < w.heap.size) (hr : RdK w (some ⟨g, off, none⟩) L) (hC : C.length ≤ 1048576) (hrd : Lst.Rd w ao C) (hao : ∀ c, ao = some ⟨c, 0, none⟩ → c < w.heap.size) :
    Calls Try.prog 13 #[.slice (some ⟨g, off, none⟩) L.length cap, .slice ao C.length cc, .int .i64 k] w (NumsPost (chainI L C k) w) := by
  have HRD : Hid (∀ W : World, Below w.heap.size w W → Lst.Rd W ao C ∧ ∀ c, ao = some ⟨c, 0, none⟩ → c < W.heap.size) := fun W hW => ⟨rd_below hrd hao hW, fun c e => Nat.lt_of_lt_of_le (hao c e) hW.size⟩
  have hcall := l10Right g off cap L ao cc C k w hcap hw hr hC hrd hao
  have HR : Hid (RdK w (some ⟨g, off, none⟩) L) := hr
  clear hrd hao hr
  go_enter Try.func13, Try.ntmps13
  go_wp2_with fail
  refine hcall.mono ?_
  rintro e w1 ⟨rfl, hb1⟩
  clear hcall
  cases hq : onB L C k
  · have HT : Hid (chainI L C k = []) := by show _ = _; unfold chainI; rw [hq]; rfl
    have HP : Hid _ := nums_nil hb1
    clear hq
    go_wp2
    go_ret
    rw [HT.out]
    exact ⟨some ⟨w1.heap.size, 0, none⟩, 0, rfl, HP.out.1, HP.out.2⟩
  · have HT : Hid (chainI L C k = chainL L C k) := by show _ = _; unfold chainI; rw [hq]; rfl
    unfold onB at hq
    rw [Bool.and_eq_true] at hq
    obtain ⟨k0, k1, hlc⟩ := Sg.isB_parts hq.1
    have HLC : Hid (laceB L = true) := hlc
    clear hq hlc
    obtain ⟨p, rfl⟩ := Int.eq_ofNat_of_zero_le k0
    have hp : p < L.length := by omega
    go_wp2_with fail
    refine (tables g off cap L _ HLC.out (by omega) (HR.out.below hb1)).mono ?_
    rintro e w2 ⟨bb, bc, rfl, hb2, h7⟩
    have hB2 := hb1.trans (hb2.mono hb1.size)
    clear hb1 hb2
    go_wp2_with fail
    refine h7.mono ?_
    rintro e w3 ⟨h, rfl, hT, hb3⟩
    have hB3 := hB2.trans (hb3.mono hB2.size)
    have hE := l10Chain g off cap L ao cc C bb bc h L.length p w3 HLC.out (Nat.lt_of_lt_of_le hg hB3.size) (HR.out.below hB3) (HRD.out w3 hB3).1 (HRD.out w3 hB3).2 hT hp
    clear hb3 hB2 h7 hT
    go_wp2_with fail
    refine hE.mono ?_
    rintro e w4 ⟨ro, rc, rfl, hown, hb4⟩
    have HP : Hid (Memb.Own w.heap.size w4 ro rc (chainL L C (p : Int)) ∧ Below w.heap.size w w4) := ⟨own_base hown hB3.size, hB3.trans (hb4.mono hB3.size)⟩
    clear hE hb4 hB3 hown
    go_wp2
    go_ret
    rw [HT.out]
    exact ⟨ro, rc, rfl, HP.out.1, HP.out.2⟩

/-- the document's OnChain -/
def onChainB (L : List K) (C : List Int) (k x : Int) : Bool := (chainI L C k).contains x
theorem chainI_len {L : List K} {C : List Int} {k : Int} : (chainI L C k).length ≤ 61 := by
  unfold chainI
  split
  · rename_i h
    unfold onB at h
    rw [Bool.and_eq_true] at h
    obtain ⟨k0, k1, hlc⟩ := Sg.isB_parts h.1
    have h60 := ((Lc.lace_iff L).1 hlc).1
    have := chain_len L C k
    omega
  · simp

set_option maxHeartbeats 1600000 in
theorem specOnChain (g off cap : Nat) (L : List K) (ao : Option Addr) (cc : Nat) (C : List Int) (k x : Int) (w : World) (hcap : L.length ≤ cap) (hw : WordsOk L) (hg : g < w.heap.size) (hr : RdK w (some ⟨g, off, none⟩) L) (hC : C.length ≤ 1048576) (hrd : Lst.Rd w ao C) (hao : ∀ c, ao = some ⟨c, 0, none⟩ → c < w.heap.size) :
    Calls Try.prog 18 #[.slice (some ⟨g, off, none⟩) L.length cap, .slice ao C.length cc, .int .i64 k, .int .i64 x] w fun e w' => e = .returned (.bool (onChainB L C k x)) ∧ Below w.heap.size w w' := by
  have hcall := specChainOf g off cap L ao cc C k w hcap hw hg hr hC hrd hao
  have HT : Hid (onChainB L C k x = (chainI L C k).contains x) := rfl
  have hfl := chainI_len (L := L) (C := C) (k := k)
  clear hrd hao hr
  go_enter Try.func18, Try.ntmps18
  go_wp2_with fail
  refine hcall.mono ?_
  rintro e w1 ⟨fo, fc, rfl, hown, hb1⟩
  have hrd1 := Lst.own_rd hown
  clear hown hcall
  generalize chainI L C k = l at HT hfl hrd1 ⊢
  go_wp2
  go_loop [10] (fun i => ∃ j : Nat, j ≤ l.length ∧ i = .int .i64 j ∧ Hid ((l.take j).contains x = false)) (fun i => l.length - (intOf i).toNat)
  case atStart => exact ⟨0, by omega, rfl, rfl⟩
  case round =>
    obtain ⟨j, hj, rfl, HN⟩ := hrel
    by_cases hlt : j < l.length
    · have hji : (j : Int) < (l.length : Int) := by omega
      have HS : Hid ((l.take (j + 1)).contains x = ((l.take j).contains x || (l.getD j 0 == x))) := Fm.has_step l x j hlt
      have HY : Hid ((l.getD j 0 == x) = true → l.contains x = true) := fun q => by
        have e : l.getD j 0 = x := by simpa using q
        rw [← e]
        simp [List.getD, List.getElem?_eq_getElem hlt]
      rcases hrd1 with hrd1 | ⟨bb, rfl, hcell⟩
      · rw [hrd1] at hlt; simp at hlt
      have cj := hcell j hlt
      clear hcell
      generalize l.getD j 0 = y at HS cj HY
      cases hq : (y == x)
      · have HN2 : Hid ((l.take (j + 1)).contains x = false) := by show _ = _; rw [HS.out, HN.out, hq]; rfl
        clear HS HY HN
        go_wp2
        go_round
        case rel => exact ⟨j + 1, by omega, by go_num, HN2⟩
        case measure => simp [intOf]; omega
      · have HT2 : Hid (onChainB L C k x = true) := by show _ = _; rw [HT.out]; exact HY.out hq
        clear HS HY HN HT
        go_wp2
        go_ret
        exact ⟨by rw [HT2.out]; rfl, hb1⟩
    · obtain rfl : j = l.length := by omega
      have HT2 : Hid (onChainB L C k x = false) := by show _ = _; rw [HT.out]; have := HN.out; rwa [List.take_length] at this
      clear HN HT
      go_wp2
      go_ret
      exact ⟨by rw [HT2.out]; rfl, hb1⟩

end Ch
end Go.Proofs.Ytbbejgabhoedeaa
