/-
  What the model's drawing for chains hands back, where the drawing of a room keeps its word.
-/
import Derived.Test.YtflhaiakhfmmmaaGreatTZa
import Derived.Test.YtflhaiakhfmmmaaGreatTRoomXm
namespace Go.Proofs.YtflhaiakhfmmmaaGreat
open Go.RowKit
set_option maxRecDepth 100000
namespace Fm
open Kn (K okK)
open Bit (bit withB)
open Lc (at' RdK WordsOk laceB handsN roundS)
open Sg (isB bel belows NumsPost)
open Db (RowI)
open Sl (sealS sealN)
open Ch (leadK)
open Rm (coinsB)

theorem row_below {base : Nat} {e : TypeId} {size : Nat} {w w' : World} {v : Value} {n : Nat} {xs : List Value} (h : w.ownsRow base e size v n xs) (hb : Below w.heap.size w w') : w'.ownsRow base e size v n xs := by
  have hlt := World.ownsRow.lt h
  obtain ⟨h1, h2⟩ := h
  refine ⟨h1, ?_⟩
  rcases h2 with h2 | ⟨g, cap, cur, rfl, hB, hg, rest⟩
  · exact .inl h2
  · exact .inr ⟨g, cap, cur, rfl, hB, (hb.block g (hlt g rfl).2).trans hg, rest⟩

end Fm
namespace Ch
open Kn (K okK)
open Bit (bit withB)
open Lc (at' RdK WordsOk laceB)
open Sg (isB bel belows NumsPost)
open Db (RowI)
open Sl (sealS sealN)
open Rm (coinsB)

structure TabsL (w : World) (L : List K) (bb h : Nat) : Prop where
  bel : ∀ i, i < L.length → w.cell? ⟨bb, i, none⟩ = some (.int .i64 (Sg.bel L i))
  sl : ∀ i, i < L.length → w.cell? ⟨h, i, none⟩ = some (.int .i64 (sealS L i L.length))
  lb : bb < w.heap.size
  lh : h < w.heap.size
theorem TabsL.below {w w' : World} {L : List K} {bb h : Nat} (t : TabsL w L bb h) (hb : Below w.heap.size w w') : TabsL w' L bb h :=
  ⟨fun i hi => (hb.cell (p := ⟨bb, i, none⟩) t.lb).trans (t.bel i hi), fun i hi => (hb.cell (p := ⟨h, i, none⟩) t.lh).trans (t.sl i hi), Nat.lt_of_lt_of_le t.lb hb.size, Nat.lt_of_lt_of_le t.lh hb.size⟩

theorem earI_step (L : List K) (C : List Int) (k n : Nat) : earI L C k (n + 1) = if earN L C k n && (decide (earI L C k n < 0) || decide ((at' L (earI L C k n).toNat).round < (at' L n).round)) then (n : Int) else earI L C k n := rfl
theorem earI_bd (L : List K) (C : List Int) (k n : Nat) : earI L C k n = -1 ∨ ∃ e : Nat, earI L C k n = (e : Int) ∧ e < n := by
  rcases ear_spec L C k n with ⟨h, _⟩ | ⟨e, h, he, _⟩
  · exact .inl h
  · exact .inr ⟨e, h, he⟩

set_option maxHeartbeats 12800000 in
theorem l10Earlier (g off cap : Nat) (L : List K) (ao : Option Addr) (cc : Nat) (C : List Int) (bb bc h hc : Nat) (k : Nat) (w : World) (hl : laceB L = true) (hg : g < w.heap.size) (hr : RdK w (some ⟨g, off, none⟩) L) (hrd : Lst.Rd w ao C) (hao : ∀ c, ao = some ⟨c, 0, none⟩ → c < w.heap.size) (ht : TabsL w L bb h) (hk : k < L.length) :
    Calls Tryz.prog 71 #[.slice (some ⟨g, off, none⟩) L.length cap, .slice ao C.length cc, .slice (some ⟨bb, 0, none⟩) L.length bc, .slice (some ⟨h, 0, none⟩) L.length hc, .int .i64 (k : Int)] w fun e w' => e = .returned (.int .i64 (earlierN L C k)) ∧ Below w.heap.size w w' := by
  have hL := ((Lc.lace_iff L).1 hl).1
  have HLC : Hid (laceB L = true) := hl
  have HRD : Hid (∀ W : World, Below w.heap.size w W → Lst.Rd W ao C ∧ ∀ c, ao = some ⟨c, 0, none⟩ → c < W.heap.size) := fun W hW => ⟨rd_below hrd hao hW, fun c e => Nat.lt_of_lt_of_le (hao c e) hW.size⟩
  have HR : Hid (RdK w (some ⟨g, off, none⟩) L) := hr
  have HT : Hid (TabsL w L bb h) := ht
  have hki : (k : Int) < (L.length : Int) := by omega
  clear hl hrd hao hr ht
  go_enter Tryz.func71, Tryz.ntmps71
  go_wp2
  go_loopw [11, 12] (fun o i wr => ∃ x : Nat, x ≤ k ∧ i = .int .i64 x ∧ o = .int .i64 (earI L C k x) ∧ Hid (Below w.heap.size w wr)) (fun _ i _ => k - (intOf i).toNat)
  case atStart => exact ⟨0, by omega, rfl, rfl, Below.refl _ _⟩
  case round =>
    obtain ⟨x, hx, rfl, rfl, HB⟩ := hrel
    by_cases hlt : x < k
    · have hxk : (x : Int) < (k : Int) := by omega
      have hxL : x < L.length := by omega
      have hxi : (x : Int) < (L.length : Int) := by omega
      have HST : Hid (earI L C k (x + 1) = if earN L C k x && (decide (earI L C k x < 0) || decide ((at' L (earI L C k x).toNat).round < (at' L x).round)) then (x : Int) else earI L C k x) := earI_step L C k x
      have HEN : Hid (earN L C k x = (bit (bel L k) x && (leadK C (at' L x) && sealN L k x))) := rfl
      have hbd := earI_bd L C k x
      have hgw : g < wr.heap.size := Nat.lt_of_lt_of_le hg HB.out.size
      obtain ⟨_, c0, c1, c2, c3⟩ := (HR.out.below HB.out).on x hxL
      have hrb := Lc.ok_round (Lc.can_ok (Lc.lace_upTo HLC.out x hxL))
      have HT1 := HT.out.below HB.out
      have t1 := HT1.bel k hk
      have t2 := HT1.sl x hxL
      have tl1 := HT1.lb
      have tl2 := HT1.lh
      have hbb := Sg.bel_bd L k (by omega)
      have hsb := Sl.sealS_bd L x L.length hL
      have HHA : Hid (∀ (W : World) (f : Int) (i : Nat) (v : Bool), ((f = bel L k ∧ i = x ∧ v = bit (bel L k) x) ∨ (f = sealS L x L.length ∧ i = k ∧ v = sealN L k x)) → Calls Tryz.prog 48 #[.int .i64 f, .int .i64 (i : Int)] W fun e w' => e = .returned (.bool v) ∧ W = w') := fun W f i v hq => by
        rcases hq with ⟨rfl, rfl, rfl⟩ | ⟨rfl, rfl, rfl⟩
        · exact (Db.has_call _ i _ hbb.1 hbb.2 (by omega) rfl W).mono fun _ _ q => ⟨q.1, q.2.symm⟩
        · exact (Db.has_call _ i _ hsb.1 hsb.2 (by omega) (by rw [Sl.bit_sealS L x _ hL, decide_eq_true hk]; rfl) W).mono fun _ _ q => ⟨q.1, q.2.symm⟩
      have HLD : Hid (∀ W : World, Below wr.heap.size wr W → Calls Tryz.prog 98 #[.slice ao C.length cc, .agg #[.int .i64 (at' L x).hand, .int .i64 (at' L x).round, .int .i64 (at' L x).frm, .string (at' L x).word]] W fun e w' => e = .returned (.bool (leadK C (at' L x))) ∧ Below W.heap.size W w') := fun W hW => by
        have hB := HB.out.trans (hW.mono HB.out.size)
        exact l8Leads ao cc C (at' L x) W hrb.1 (by omega) (HRD.out W hB).1 (HRD.out W hB).2
      clear HT1 hbb hsb
      generalize bel L k = yb at t1 HHA HEN
      generalize sealS L x L.length = ys at t2 HHA
      generalize bit yb x = b1 at HEN HHA
      generalize sealN L k x = b3 at HEN HHA
      have HRO : Hid (∀ e : Nat, e < x → wr.cell? ⟨g, off + e * 4 + 1, none⟩ = some (.int .i64 (at' L e).round)) := fun e he => by obtain ⟨_, _, q, _, _⟩ := (HR.out.below HB.out).on e (by omega); exact q
      generalize hkk : at' L x = kk at c0 c1 c2 c3 HLD HEN HST hrb
      generalize leadK C kk = b2 at HEN HLD
      have HCASE : Hid (earI L C k x = -1 ∨ ∃ e : Nat, earI L C k x = (e : Int) ∧ e < x) := hbd
      generalize earI L C k x = eo at HST HCASE ⊢
      clear hbd hkk
      obtain ⟨X, _, F, HF, HG⟩ := Fam.fam wr
      have d0 : ∀ z, (F z).cell? ⟨g, off + x * 4, none⟩ = some (.int .i64 kk.hand) := fun z => ((HF.out z).cell (p := ⟨g, off + x * 4, none⟩) hgw).trans c0
      have d1 : ∀ z, (F z).cell? ⟨g, off + x * 4 + 1, none⟩ = some (.int .i64 kk.round) := fun z => ((HF.out z).cell (p := ⟨g, off + x * 4 + 1, none⟩) hgw).trans c1
      have d2 : ∀ z, (F z).cell? ⟨g, off + x * 4 + 2, none⟩ = some (.int .i64 kk.frm) := fun z => ((HF.out z).cell (p := ⟨g, off + x * 4 + 2, none⟩) hgw).trans c2
      have d3 : ∀ z, (F z).cell? ⟨g, off + x * 4 + 3, none⟩ = some (.string kk.word) := fun z => ((HF.out z).cell (p := ⟨g, off + x * 4 + 3, none⟩) hgw).trans c3
      have s1 : ∀ z, (F z).cell? ⟨bb, k, none⟩ = some (.int .i64 yb) := fun z => ((HF.out z).cell (p := ⟨bb, k, none⟩) tl1).trans t1
      have s2 : ∀ z, (F z).cell? ⟨h, x, none⟩ = some (.int .i64 ys) := fun z => ((HF.out z).cell (p := ⟨h, x, none⟩) tl2).trans t2
      clear c0 c1 c2 c3 t1 t2
      cases b1
      · have HD : Hid (earI L C k (x + 1) = eo) := by show _ = _; rw [HST.out, HEN.out]; simp
        clear HST HEN HCASE HLD
        go_wp2_with fail
        refine Fam.region (F := F) (by kernel_rfl) (by kernel_rfl) (HG.out _ (Below.refl _ wr).drew) ?_
        repeat (go_big_quiet_step (first
          | (go_at_call 48; exact (HHA.out _ _ _ _ (by first | exact .inl ⟨rfl, rfl, rfl⟩ | exact .inr ⟨rfl, rfl, rfl⟩)).mono fun _ _ q => ⟨q.1, _, q.2.symm⟩)))
        refine wpQuiet_nil ?_
        intro w2 hw2
        obtain ⟨z, rfl⟩ := hw2
        have HB2 : Hid (Below w.heap.size w (F z)) := HB.out.trans ((HF.out z).mono HB.out.size)
        clear HB
        go_wp2
        go_roundw
        case rel => exact ⟨x + 1, by omega, by go_num, by rw [HD.out], HB2⟩
        case measure => simp [intOf]; omega
      · cases b2
        · have HD : Hid (earI L C k (x + 1) = eo) := by show _ = _; rw [HST.out, HEN.out]; simp
          clear HST HEN HCASE
          go_wp2_with fail
          refine Fam.region (F := F) (by kernel_rfl) (by kernel_rfl) (HG.out _ (Below.refl _ wr).drew) ?_
          repeat (go_big_quiet_step (first
            | (go_at_call 48; exact (HHA.out _ _ _ _ (by first | exact .inl ⟨rfl, rfl, rfl⟩ | exact .inr ⟨rfl, rfl, rfl⟩)).mono fun _ _ q => ⟨q.1, _, q.2.symm⟩)
            | (go_at_call 98; exact (HLD.out _ (HF.out _)).mono fun _ _ q => ⟨q.1, HG.out _ ((HF.out _).trans (q.2.mono (HF.out _).size))⟩)))
          refine wpQuiet_nil ?_
          intro w2 hw2
          obtain ⟨z, rfl⟩ := hw2
          have HB2 : Hid (Below w.heap.size w (F z)) := HB.out.trans ((HF.out z).mono HB.out.size)
          clear HB
          go_wp2
          go_roundw
          case rel => exact ⟨x + 1, by omega, by go_num, by rw [HD.out], HB2⟩
          case measure => simp [intOf]; omega
        · cases b3
          · have HD : Hid (earI L C k (x + 1) = eo) := by show _ = _; rw [HST.out, HEN.out]; simp
            clear HST HEN HCASE
            go_wp2_with fail
            refine Fam.region (F := F) (by kernel_rfl) (by kernel_rfl) (HG.out _ (Below.refl _ wr).drew) ?_
            repeat (go_big_quiet_step (first
              | (go_at_call 48; exact (HHA.out _ _ _ _ (by first | exact .inl ⟨rfl, rfl, rfl⟩ | exact .inr ⟨rfl, rfl, rfl⟩)).mono fun _ _ q => ⟨q.1, _, q.2.symm⟩)
              | (go_at_call 98; exact (HLD.out _ (HF.out _)).mono fun _ _ q => ⟨q.1, HG.out _ ((HF.out _).trans (q.2.mono (HF.out _).size))⟩)))
            refine wpQuiet_nil ?_
            intro w2 hw2
            obtain ⟨z, rfl⟩ := hw2
            have HB2 : Hid (Below w.heap.size w (F z)) := HB.out.trans ((HF.out z).mono HB.out.size)
            clear HB
            go_wp2
            go_roundw
            case rel => exact ⟨x + 1, by omega, by go_num, by rw [HD.out], HB2⟩
            case measure => simp [intOf]; omega
          · rcases HCASE.out with e | ⟨e, rfl, hex⟩
            · subst e
              have HD : Hid (earI L C k (x + 1) = (x : Int)) := by show _ = _; rw [HST.out, HEN.out]; simp
              clear HST HEN HCASE
              go_wp2_with fail
              refine Fam.region (F := F) (by kernel_rfl) (by kernel_rfl) (HG.out _ (Below.refl _ wr).drew) ?_
              repeat (go_big_quiet_step (first
                | (go_at_call 48; exact (HHA.out _ _ _ _ (by first | exact .inl ⟨rfl, rfl, rfl⟩ | exact .inr ⟨rfl, rfl, rfl⟩)).mono fun _ _ q => ⟨q.1, _, q.2.symm⟩)
                | (go_at_call 98; exact (HLD.out _ (HF.out _)).mono fun _ _ q => ⟨q.1, HG.out _ ((HF.out _).trans (q.2.mono (HF.out _).size))⟩)))
              refine wpQuiet_nil ?_
              intro w2 hw2
              obtain ⟨z, rfl⟩ := hw2
              have HB2 : Hid (Below w.heap.size w (F z)) := HB.out.trans ((HF.out z).mono HB.out.size)
              clear HB
              go_wp2
              go_roundw
              case rel => exact ⟨x + 1, by omega, by go_num, by rw [HD.out], HB2⟩
              case measure => simp [intOf]; omega
            · have ce := HRO.out e hex
              have d5 : ∀ z, (F z).cell? ⟨g, off + e * 4 + 1, none⟩ = some (.int .i64 (at' L e).round) := fun z => ((HF.out z).cell (p := ⟨g, off + e * 4 + 1, none⟩) hgw).trans ce
              have hei : (e : Int) < (L.length : Int) := by omega
              have he0 : decide ((e : Int) < 0) = false := decide_eq_false (by omega)
              rw [Int.toNat_natCast] at HST
              generalize (at' L e).round = er at HST d5
              clear ce
              by_cases hrr : er < kk.round
              · have HD : Hid (earI L C k (x + 1) = (x : Int)) := by show _ = _; rw [HST.out, HEN.out]; simp [hrr]
                clear HST HEN HCASE HRO
                go_wp2_with fail
                refine Fam.region (F := F) (by kernel_rfl) (by kernel_rfl) (HG.out _ (Below.refl _ wr).drew) ?_
                repeat (go_big_quiet_step (first
                  | (go_at_call 48; exact (HHA.out _ _ _ _ (by first | exact .inl ⟨rfl, rfl, rfl⟩ | exact .inr ⟨rfl, rfl, rfl⟩)).mono fun _ _ q => ⟨q.1, _, q.2.symm⟩)
                  | (go_at_call 98; exact (HLD.out _ (HF.out _)).mono fun _ _ q => ⟨q.1, HG.out _ ((HF.out _).trans (q.2.mono (HF.out _).size))⟩)))
                refine wpQuiet_nil ?_
                intro w2 hw2
                obtain ⟨z, rfl⟩ := hw2
                have HB2 : Hid (Below w.heap.size w (F z)) := HB.out.trans ((HF.out z).mono HB.out.size)
                clear HB
                go_wp2
                go_roundw
                case rel => exact ⟨x + 1, by omega, by go_num, by rw [HD.out], HB2⟩
                case measure => simp [intOf]; omega
              · have HD : Hid (earI L C k (x + 1) = (e : Int)) := by show _ = _; rw [HST.out, HEN.out]; simp; omega
                clear HST HEN HCASE HRO
                go_wp2_with fail
                refine Fam.region (F := F) (by kernel_rfl) (by kernel_rfl) (HG.out _ (Below.refl _ wr).drew) ?_
                repeat (go_big_quiet_step (first
                  | (go_at_call 48; exact (HHA.out _ _ _ _ (by first | exact .inl ⟨rfl, rfl, rfl⟩ | exact .inr ⟨rfl, rfl, rfl⟩)).mono fun _ _ q => ⟨q.1, _, q.2.symm⟩)
                  | (go_at_call 98; exact (HLD.out _ (HF.out _)).mono fun _ _ q => ⟨q.1, HG.out _ ((HF.out _).trans (q.2.mono (HF.out _).size))⟩)))
                refine wpQuiet_nil ?_
                intro w2 hw2
                obtain ⟨z, rfl⟩ := hw2
                have HB2 : Hid (Below w.heap.size w (F z)) := HB.out.trans ((HF.out z).mono HB.out.size)
                clear HB
                go_wp2
                go_roundw
                case rel => exact ⟨x + 1, by omega, by go_num, by rw [HD.out], HB2⟩
                case measure => simp [intOf]; omega
    · obtain rfl : x = k := by omega
      have HE : Hid (earI L C x x = earlierN L C x) := rfl
      rw [HE.out]
      go_wp2
      go_ret
      exact ⟨rfl, HB.out⟩

structure ChSt (w wr : World) (v : Value) (l : List Int) : Prop where
  shape : ∃ gg cp, v = .slice (some ⟨gg, 0, none⟩) l.length cp ∧ Memb.Own w.heap.size wr (some ⟨gg, 0, none⟩) cp l
  bel : Below w.heap.size w wr
theorem chSt_start (w : World) : ChSt w (w.alloc (.cells #[] 2)) (.slice (some ⟨w.heap.size, 0, none⟩) 0 0) [] := ⟨⟨_, _, rfl, Memb.own_empty w⟩, (Below.refl _ _).alloc (Nat.le_refl _) _⟩
theorem chSt_put {w wr w3 : World} {v' : Value} {l : List Int} {x : Int} {o : Obj} (hB : Below w.heap.size w wr) (ho : w3.ownsRow w.heap.size 2 1 v' (1 + l.length) ([.int .i64 x] ++ l.map (Value.int .i64))) (hg : (wr.alloc o).grownBy w3 (some wr.heap.size)) (hn : ¬ v' = .slice none 0 0) : ChSt w w3 v' (x :: l) := by
  refine ⟨?_, (hB.alloc hB.size o).grown hg (by simp; have := hB.size; omega) (fun j hj => by cases hj; exact hB.size)⟩
  have ho' : w3.ownsRow w.heap.size 2 1 v' (x :: l).length ((x :: l).map (Value.int .i64)) := by
    rw [show (x :: l).length = 1 + l.length by simp; omega]; exact ho
  obtain ⟨ao, cap, hv, hown⟩ := Memb.own_shape ho'
  rcases ao with _ | a
  · obtain ⟨_, ⟨hx, _⟩ | ⟨gg, cp, cur, hx, _⟩⟩ := ho'
    · exact absurd hx hn
    · rw [hv] at hx; injection hx with hx _; exact absurd hx (by simp)
  · obtain ⟨_, ⟨hx, _⟩ | ⟨gg, cp, cur, hx, _⟩⟩ := ho'
    · exact absurd hx hn
    · rw [hv] at hx
      injection hx with hx _ hc
      injection hx with hx
      subst hx hc
      exact ⟨gg, cap, hv, hown⟩

set_option maxHeartbeats 3200000 in
theorem l10Chain (g off cap : Nat) (L : List K) (ao : Option Addr) (cc : Nat) (C : List Int) (bb bc h hc : Nat) (k : Nat) (w : World) (hl : laceB L = true) (hg : g < w.heap.size) (hr : RdK w (some ⟨g, off, none⟩) L) (hrd : Lst.Rd w ao C) (hao : ∀ c, ao = some ⟨c, 0, none⟩ → c < w.heap.size) (ht : TabsL w L bb h) (hk : k < L.length) :
    Calls Tryz.prog 41 #[.slice (some ⟨g, off, none⟩) L.length cap, .slice ao C.length cc, .slice (some ⟨bb, 0, none⟩) L.length bc, .slice (some ⟨h, 0, none⟩) L.length hc, .int .i64 (k : Int)] w (NumsPost (chainL L C (k : Int)) w) := by
  obtain ⟨i0, hi, hz0, hz1, hz2⟩ := info_parts Memb.info2
  have hL := ((Lc.lace_iff L).1 hl).1
  have HEAR : Hid (∀ (W : World) (p : Nat), Below w.heap.size w W → p < L.length → Calls Tryz.prog 71 #[.slice (some ⟨g, off, none⟩) L.length cap, .slice ao C.length cc, .slice (some ⟨bb, 0, none⟩) L.length bc, .slice (some ⟨h, 0, none⟩) L.length hc, .int .i64 (p : Int)] W fun e w' => e = .returned (.int .i64 (earlierN L C p)) ∧ Below W.heap.size W w') := fun W p hW hp =>
    l10Earlier g off cap L ao cc C bb bc h hc p W hl (Nat.lt_of_lt_of_le hg hW.size) (hr.below hW) (rd_below hrd hao hW) (fun c e => Nat.lt_of_lt_of_le (hao c e) hW.size) (ht.below hW) hp
  have HLEN : Hid (∀ (kc : Int) (l : List Int), chainL L C (k : Int) = chainL L C kc ++ l → l.length ≤ k + 1) := fun kc l e => by
    have h1 := chain_len L C (k : Int)
    rw [e] at h1
    simp at h1
    omega
  clear hl hr hrd hao ht
  go_enter Tryz.func41, Tryz.ntmps41
  go_wp2
  go_loopw [4, 11] (fun kv v wr => ∃ (kc : Int) (l : List Int), kv = .int .i64 kc ∧ (-1 ≤ kc ∧ kc < (L.length : Int)) ∧ Hid (chainL L C (k : Int) = chainL L C kc ++ l) ∧ Hid (ChSt w wr v l)) (fun kv _ _ => (intOf kv + 1).toNat)
  case atStart => exact ⟨(k : Int), [], rfl, by omega, by show _ = _; rw [List.append_nil], chSt_start w⟩
  case round =>
    obtain ⟨kc, l, rfl, hkc, HCH, HS⟩ := hrel
    have hll := HLEN.out kc l HCH.out
    by_cases hn : 0 ≤ kc
    · obtain ⟨p, rfl⟩ := Int.eq_ofNat_of_zero_le hn
      have hp : p < L.length := by omega
      have hlt := earlier_lt L C p
      have hge : -1 ≤ earlierN L C p := by rcases earI_bd L C p p with e | ⟨e, he, _⟩ <;> unfold earlierN <;> omega
      have HCH2 : Hid (chainL L C (k : Int) = chainL L C (earlierN L C p) ++ ((p : Int) :: l)) := by
        show _ = _; rw [HCH.out, chain_step, List.append_assoc]; rfl
      obtain ⟨gg, cp, hv, hown⟩ := HS.out.shape
      subst hv
      have hrd1 := Lst.own_rd hown
      have hgg := (World.ownsRow.lt hown gg rfl).2
      have HLIT : Hid ((wr.alloc (.cells #[.int .i64 (p : Int)] 2)).ownsRow w.heap.size 2 1 (.slice (some ⟨wr.heap.size, 0, none⟩) 1 1) 1 [.int .i64 (p : Int)]) := World.ownsRow_lit wr #[.int .i64 (p : Int)] 1 HS.out.bel.size (by unfold maxLen; omega) rfl
      have HNEW : Hid (∀ (j : Nat) u, (l.map (Value.int .i64))[j]? = some u → (wr.alloc (.cells #[.int .i64 (p : Int)] 2)).cell? ((⟨gg, 0, none⟩ : Addr).add j) = some u) := fun j u hu => by
        rw [List.getElem?_map] at hu
        rcases hj : l[j]? with _ | y
        · rw [hj] at hu; simp at hu
        · rw [hj] at hu
          simp at hu
          subst hu
          have hjl : j < l.length := (List.getElem?_eq_some_iff.1 hj).1
          rcases hrd1 with e | ⟨g2, e, hcell⟩
          · rw [e] at hjl; simp at hjl
          · injection e with e; injection e with e; subst e
            have := hcell j hjl
            rw [show l.getD j 0 = y by simp [List.getD, hj]] at this
            rw [show (⟨gg, 0, none⟩ : Addr).add j = ⟨gg, j, none⟩ by simp [Addr.add]; intro e; exact e.symm, World.cell?_alloc_lt _ _ _ hgg]
            exact this
      have HONE : Hid (∀ u ∈ l.map (Value.int .i64), u.oneCell' = true) := fun u hu => by
        obtain ⟨y, _, rfl⟩ := List.mem_map.1 hu; rfl
      have HBW : Hid (Below w.heap.size w wr) := HS.out.bel
      clear hown hrd1
      go_wp2_with (first | (at_builtin; refine wpList_append_own _ rfl _ _ 25 rfl w.heap.size 2 i0 (.int .i64 0) 1 8 Tryz.underlying25 hi hz0 hz1 hz2 rfl (by decide) (.slice (some ⟨wr.heap.size, 0, none⟩) 1 1) 1 [.int .i64 (p : Int)] (by first | rfl | simp [Act.eval]) HLIT.out ⟨gg, 0, none⟩ l.length cp (l.map (Value.int .i64)) (by first | rfl | simp [Act.eval]) (by simp) HNEW.out HONE.out ?c3 ?c4 ?c5 ?_) | fail)
      case c3 => unfold maxLen; omega
      case c4 => omega
      case c5 => have := HBW.out.size; simp; omega
      intro v' w3 hown' hgrow hnil
      have HS3 : Hid (ChSt w w3 v' ((p : Int) :: l)) := chSt_put HBW.out hown' hgrow hnil
      clear hown' hgrow hnil HS HLIT HNEW HONE HBW
      have hcall := HEAR.out w3 p HS3.out.bel hp
      go_wp2_with fail
      refine hcall.mono ?_
      rintro e w4 ⟨rfl, hb4⟩
      have HS4 : Hid (ChSt w w4 v' ((p : Int) :: l)) := by
        obtain ⟨g4, c4, e4, o4⟩ := HS3.out.shape
        exact ⟨⟨g4, c4, e4, Lst.own_below o4 hb4⟩, HS3.out.bel.trans (hb4.mono HS3.out.bel.size)⟩
      clear hb4 HS3 hcall
      go_wp2
      go_roundw
      case rel => exact ⟨earlierN L C p, (p : Int) :: l, rfl, by omega, HCH2, HS4⟩
      case measure => simp [intOf]; omega
    · have HE : Hid (chainL L C (k : Int) = l) := by show _ = _; rw [HCH.out, chain_neg L C (by omega)]; rfl
      obtain ⟨gg, cp, hv, hown⟩ := HS.out.shape
      have HV : Hid (u11 = .slice (some ⟨gg, 0, none⟩) l.length cp) := hv
      have HF : Hid (Memb.Own w.heap.size wr (some ⟨gg, 0, none⟩) cp l ∧ Below w.heap.size w wr) := ⟨hown, HS.out.bel⟩
      clear hv hown HS HCH
      go_wp2
      go_ret
      exact ⟨some ⟨gg, 0, none⟩, cp, by rw [HE.out, ← HV.out]; rfl, by rw [HE.out]; exact HF.out.1, HF.out.2⟩

theorem tables (g off cap : Nat) (L : List K) (w : World) (hl : laceB L = true) (hN : 0 < L.length) (hr : RdK w (some ⟨g, off, none⟩) L) :
    Calls Tryz.prog 39 #[.slice (some ⟨g, off, none⟩) L.length cap] w fun e w' => ∃ bb bc, e = .returned (.slice (some ⟨bb, 0, none⟩) L.length bc) ∧ Below w.heap.size w w' ∧
      Calls Tryz.prog 42 #[.slice (some ⟨g, off, none⟩) L.length cap, .slice (some ⟨bb, 0, none⟩) L.length bc] w' fun e2 w2 => ∃ h, e2 = .returned (.slice (some ⟨h, 0, none⟩) L.length L.length) ∧ TabsL w2 L bb h ∧ Below w'.heap.size w' w2 := by
  have h60 := ((Lc.lace_iff L).1 hl).1
  refine (Sg.l4All (some ⟨g, off, none⟩) cap L w h60 (Sg.frm_lace hl) hr).mono ?_
  rintro e w1 ⟨bo, bc, rfl, hown, hb1⟩
  have hbl := Sg.belows_len L L.length
  have hrd := Lst.own_rd hown
  rcases hrd with e | ⟨bb, e, hcell⟩
  · rw [e] at hbl; simp at hbl; omega
  · subst e
    have hlt := (World.ownsRow.lt hown bb rfl).2
    refine ⟨bb, bc, by rw [hbl], hb1, ?_⟩
    refine (Sl.l7All g off cap L (some ⟨bb, 0, none⟩) bc w1 hl (hr.below hb1) (Lst.own_rd hown) (fun g' e => by injection e with e; injection e with e; subst e; exact hlt)).mono ?_
    rintro e w2 ⟨h, O, rfl, _, hrow, hO, hb2⟩
    refine ⟨h, rfl, ⟨fun i hi => ?_, fun i hi => by rw [← hO i hi]; exact hrow.rd i hi, Nat.lt_of_lt_of_le hlt hb2.size, hrow.lt⟩, hb2⟩
    rw [(hb2.cell (p := ⟨bb, i, none⟩) hlt)]
    have := hcell i (by rw [hbl]; exact hi)
    rwa [Sg.belows_get L L.length i hi] at this

def onB (L : List K) (C : List Int) (k : Int) : Bool := isB L k && coinsB C
def chainI (L : List K) (C : List Int) (k : Int) : List Int := if onB L C k then chainL L C k else []

set_option maxHeartbeats 800000 in
theorem l10Right (g off cap : Nat) (L : List K) (ao : Option Addr) (cc : Nat) (C : List Int) (k : Int) (w : World) (hcap : L.length ≤ cap) (hw : WordsOk L) (hr : RdK w (some ⟨g, off, none⟩) L) (hC : C.length ≤ 1048576) (hrd : Lst.Rd w ao C) (hao : ∀ c, ao = some ⟨c, 0, none⟩ → c < w.heap.size) :
    Calls Tryz.prog 37 #[.slice (some ⟨g, off, none⟩) L.length cap, .slice ao C.length cc, .int .i64 k] w fun e w' => e = .returned (.bool (onB L C k)) ∧ Below w.heap.size w w' := by
  go_enter Tryz.func37, Tryz.ntmps37
  go_wp2_with fail
  refine (Sg.l4Is g off cap L k _ hcap hw hr).mono ?_
  rintro e w1 ⟨rfl, hb1⟩
  have hcall := Rm.specCoinsOk ao cc C w1 hC (rd_below hrd hao hb1)
  have HT : Hid (onB L C k = (isB L k && coinsB C)) := rfl
  clear hrd hao hr
  generalize isB L k = b1 at HT ⊢
  generalize coinsB C = b2 at HT hcall
  cases b1
  · clear hcall
    go_wp2
    go_ret
    exact ⟨by rw [HT.out]; rfl, hb1⟩
  · go_wp2_with (go_at_call 70; refine hcall.mono ?_; rintro e w' ⟨rfl, rfl⟩)
    go_ret
    exact ⟨by rw [HT.out]; rfl, hb1⟩

theorem own_base {B B' : Nat} {w : World} {ao : Option Addr} {cap : Nat} {l : List Int} (h : Memb.Own B w ao cap l) (hb : B' ≤ B) : Memb.Own B' w ao cap l := by
  obtain ⟨a1, a2⟩ := h
  refine ⟨a1, ?_⟩
  rcases a2 with a2 | ⟨g2, c2, cur, e1, e2, rest⟩
  · exact .inl a2
  · exact .inr ⟨g2, c2, cur, e1, Nat.le_trans hb e2, rest⟩
theorem nums_nil {w w1 : World} (hb1 : Below w.heap.size w w1) : Memb.Own w.heap.size (w1.alloc (.cells #[] 2)) (some ⟨w1.heap.size, 0, none⟩) 0 [] ∧ Below w.heap.size w (w1.alloc (.cells #[] 2)) := ⟨own_base (Memb.own_empty w1) hb1.size, hb1.alloc hb1.size _⟩

set_option maxHeartbeats 1600000 in
theorem specChainOf (g off cap : Nat) (L : List K) (ao : Option Addr) (cc : Nat) (C : List Int) (k : Int) (w : World) (hcap : L.length ≤ cap) (hw : WordsOk L) (hg : g < w.heap.size) (hr : RdK w (some ⟨g, off, none⟩) L) (hC : C.length ≤ 1048576) (hrd : Lst.Rd w ao C) (hao : ∀ c, ao = some ⟨c, 0, none⟩ → c < w.heap.size) :
    Calls Tryz.prog 14 #[.slice (some ⟨g, off, none⟩) L.length cap, .slice ao C.length cc, .int .i64 k] w (NumsPost (chainI L C k) w) := by
  have HRD : Hid (∀ W : World, Below w.heap.size w W → Lst.Rd W ao C ∧ ∀ c, ao = some ⟨c, 0, none⟩ → c < W.heap.size) := fun W hW => ⟨rd_below hrd hao hW, fun c e => Nat.lt_of_lt_of_le (hao c e) hW.size⟩
  have hcall := l10Right g off cap L ao cc C k w hcap hw hr hC hrd hao
  have HR : Hid (RdK w (some ⟨g, off, none⟩) L) := hr
  clear hrd hao hr
  go_enter Tryz.func14, Tryz.ntmps14
  go_wp2_with fail
  refine hcall.mono ?_
  rintro e w1 ⟨rfl, hb1⟩
  clear hcall
  cases hq : onB L C k
  · have HT : Hid (chainI L C k = []) := by show _ = _; unfold chainI; rw [hq]; rfl
    have HP : Hid _ := nums_nil hb1
    clear hq
    go_wp2
    go_ret
    rw [HT.out]
    exact ⟨some ⟨w1.heap.size, 0, none⟩, 0, rfl, HP.out.1, HP.out.2⟩
  · have HT : Hid (chainI L C k = chainL L C k) := by show _ = _; unfold chainI; rw [hq]; rfl
    unfold onB at hq
    rw [Bool.and_eq_true] at hq
    obtain ⟨k0, k1, hlc⟩ := Sg.isB_parts hq.1
    have HLC : Hid (laceB L = true) := hlc
    clear hq hlc
    obtain ⟨p, rfl⟩ := Int.eq_ofNat_of_zero_le k0
    have hp : p < L.length := by omega
    go_wp2_with fail
    refine (tables g off cap L _ HLC.out (by omega) (HR.out.below hb1)).mono ?_
    rintro e w2 ⟨bb, bc, rfl, hb2, h7⟩
    have hB2 := hb1.trans (hb2.mono hb1.size)
    clear hb1 hb2
    go_wp2_with fail
    refine h7.mono ?_
    rintro e w3 ⟨h, rfl, hT, hb3⟩
    have hB3 := hB2.trans (hb3.mono hB2.size)
    have hE := l10Chain g off cap L ao cc C bb bc h L.length p w3 HLC.out (Nat.lt_of_lt_of_le hg hB3.size) (HR.out.below hB3) (HRD.out w3 hB3).1 (HRD.out w3 hB3).2 hT hp
    clear hb3 hB2 h7 hT
    go_wp2_with fail
    refine hE.mono ?_
    rintro e w4 ⟨ro, rc, rfl, hown, hb4⟩
    have HP : Hid (Memb.Own w.heap.size w4 ro rc (chainL L C (p : Int)) ∧ Below w.heap.size w w4) := ⟨own_base hown hB3.size, hB3.trans (hb4.mono hB3.size)⟩
    clear hE hb4 hB3 hown
    go_wp2
    go_ret
    rw [HT.out]
    exact ⟨ro, rc, rfl, HP.out.1, HP.out.2⟩

theorem chainI_len {L : List K} {C : List Int} {k : Int} : (chainI L C k).length ≤ 61 := by
  unfold chainI
  split
  · rename_i h
    unfold onB at h
    rw [Bool.and_eq_true] at h
    obtain ⟨k0, k1, hlc⟩ := Sg.isB_parts h.1
    have h60 := ((Lc.lace_iff L).1 hlc).1
    have := chain_len L C k
    omega
  · simp

end Ch
namespace Rm
open Kn (K okK)
open Bit (bit memTo)
open Lc (at' RdK laceB flat OwnK cellsOf)
open Cur (At)

theorem l1CopyD (v : Value) (w : World) (h : CoinsAt w v) : Calls Tryz.prog 35 #[v] w fun e w' => ∃ ao cc C, e = .returned (.slice ao C.length cc) ∧ C.length ≤ 7 ∧ Memb.Own w.heap.size w' ao cc C ∧ Below w.heap.size w w' := by
  obtain ⟨ao, cap, l, rfl, h1, h2, h3, hrd⟩ := h
  cases ao with
  | none =>
    obtain ⟨rfl, rfl⟩ := h1 rfl
    refine (l1CopyN w).mono ?_
    rintro e w' ⟨bo, bc, rfl, ho, hb⟩
    exact ⟨bo, bc, [], rfl, by simp, ho, hb⟩
  | some x =>
    obtain ⟨g, rfl, hg⟩ := h2 x rfl
    refine (l1Copy g cap l w (by omega) hg hrd).mono ?_
    rintro e w' ⟨bo, bc, rfl, ho, hb⟩
    exact ⟨bo, bc, l, rfl, by omega, ho, hb⟩

structure LcSt (c : Nat) (a : Option Addr) (len cap : Nat) (w wr : World) (v : Value) (L : List K) (ao : Option Addr) (cc : Nat) (C : List Int) : Prop where
  at' : At c a len cap wr
  gr : w.grownBy wr (some c)
  lo : OwnK 42 w.heap.size wr v L
  l61 : L.length ≤ 61
  wd : ∀ k ∈ L, k.word.size ≤ 13
  co : Memb.Own w.heap.size wr ao cc C
  c7 : C.length ≤ 7
theorem LcSt.grown {c : Nat} {a : Option Addr} {len cap : Nat} {w wr w1 : World} {v : Value} {L : List K} {ao : Option Addr} {cc : Nat} {C : List Int} (s : LcSt c a len cap w wr v L ao cc C) (hc : c < w.heap.size) (hA : At c a len cap w1) (hG : wr.grownBy w1 (some c)) : LcSt c a len cap w w1 v L ao cc C :=
  ⟨hA, Cur.grownBy_trans s.gr hG, ownK_grown s.lo hG hc, s.l61, s.wd, Draw.own_grown s.co hG hc, s.c7⟩
def LcPost (c : Nat) (a : Option Addr) (len cap : Nat) (w : World) (e : Ending) (w' : World) : Prop := ∃ v L ao cc C, e = .returned (.tuple #[v, .slice ao C.length cc]) ∧ LcSt c a len cap w w' v L ao cc C

set_option maxHeartbeats 3200000 in
theorem l9Draw (HD : DrawsRoom) (HDC : DrawsRoomC) (c : Nat) (a : Option Addr) (len cap : Nat) (w : World) (hl : len ≤ 4096) (hc : At c a len cap w) :
    Calls Tryz.prog 62 #[.pointer (some ⟨c, 0, none⟩)] w (LcPost c a len cap w) := by
  have hcw : c < w.heap.size := hc.lt
  have HDD : Hid DrawsRoom := HD
  have HDX : Hid DrawsRoomC := HDC
  clear HD HDC
  go_enter Tryz.func62, Tryz.ntmps62
  go_wp2_with fail
  refine (HDX.out c a len cap _ hl hc).mono ?_
  rintro e w1 ⟨R, rfl, hP, hA1, hF1, hCo1, hCB1⟩
  obtain ⟨ro, cp, hlv, ho, hz, _, hrd, _⟩ := own_lace hP.own
  have h60 := ((Lc.lace_iff R.L).1 hP.lace).1
  have HWD : Hid (∀ k ∈ R.L, k.word.size ≤ 13) := word_lace hP.lace
  obtain ⟨co, n, cc, hcv⟩ : ∃ co n cc, R.cv = .slice co n cc := by obtain ⟨co, cc, l, e, _⟩ := hCo1; exact ⟨co, l.length, cc, e⟩
  have HV : Hid (roV R = .agg #[.slice ro R.L.length cp, .slice co n cc, .slice (some ⟨R.gh, 0, none⟩) 4 R.hc, .int .i64 R.bad]) := by show _ = _; unfold roV; rw [hlv, hcv]
  rw [HV.out]
  have HG1 : Hid (w.grownBy w1 (some c)) := hF1.grown
  have HP2 : Hid (Q4 (w1.alloc (.cells #[.slice ro R.L.length cp, .slice co n cc, .slice (some ⟨R.gh, 0, none⟩) 4 R.hc, .int .i64 R.bad] 102)) w1.heap.size (.slice ro R.L.length cp) (.slice co n cc) (.slice (some ⟨R.gh, 0, none⟩) 4 R.hc) (.int .i64 R.bad) ∧ Below w1.heap.size w1 (w1.alloc (.cells #[.slice ro R.L.length cp, .slice co n cc, .slice (some ⟨R.gh, 0, none⟩) 4 R.hc, .int .i64 R.bad] 102))) := ⟨q4_new _ _ _ _ _ _, (Below.refl _ _).alloc (Nat.le_refl _) _⟩
  rw [hcv] at hCo1
  go_upto_region 2 with fail
  generalize w1.alloc (.cells #[.slice ro R.L.length cp, .slice co n cc, .slice (some ⟨R.gh, 0, none⟩) 4 R.hc, .int .i64 R.bad] 102) = V at HP2 ⊢
  have hbV : Below w1.heap.size w1 V := HP2.out.2
  obtain ⟨ro2, cp2, hlv2, ho2, hz2, _, hrd2, _⟩ := own_lace (Fm.row_below hP.own hbV)
  obtain ⟨hq1, hq2⟩ : ro2 = ro ∧ cp2 = cp := by
    rw [hlv] at hlv2
    injection hlv2 with e1 _ e3
    exact ⟨e1.symm, e3.symm⟩
  subst hq1 hq2
  have hCoV := coinsAt_below hCo1 hbV
  have hAV : At c a len cap V := hA1.below hbV
  have HGV : Hid (w.grownBy V (some c)) := Cur.grownBy_trans HG1.out ⟨hbV.os, hbV.tape, hbV.output, hbV.size, fun i hi _ => hbV.block i hi⟩
  obtain ⟨hQl, q0, q1, _, _, _, _, _, _⟩ := HP2.out.1
  have hcopy := l3CopyO ro2 cp2 R.L V ho2 hz2 (by omega) hrd2
  generalize w1.heap.size = rb at hQl q0 q1 ⊢
  clear hP hlv hlv2 hCo1 hA1 hF1 hCB1 ho hz hrd ho2 hz2 hrd2 HV HP2 HG1 hbV hcv
  go_wp2_with fail
  refine hcopy.mono ?_
  rintro e w2 ⟨v, rfl, hO2, hb2⟩
  have q1' := (hb2.cell (p := ⟨rb, 1, none⟩) hQl).trans q1
  have hcopyC := l1CopyD (.slice co n cc) w2 (coinsAt_below hCoV hb2)
  have hA2 : At c a len cap w2 := hAV.below hb2
  have HG2 : Hid (w.grownBy w2 (some c)) := Cur.grownBy_trans HGV.out ⟨hb2.os, hb2.tape, hb2.output, hb2.size, fun i hi _ => hb2.block i hi⟩
  have HO2 : Hid (OwnK 42 w.heap.size w2 v R.L) := ownK_base hO2 HGV.out.size
  clear hO2 hb2 hCoV hAV HGV hcopy q0 q1
  go_wp2_with fail
  refine hcopyC.mono ?_
  rintro e w3 ⟨ao, ac, C, rfl, hC7, hCO, hb3⟩
  have HS3 : Hid (LcSt c a len cap w w3 v R.L ao ac C) := ⟨hA2.below hb3, Cur.grownBy_trans HG2.out ⟨hb3.os, hb3.tape, hb3.output, hb3.size, fun i hi _ => hb3.block i hi⟩, Lc.ownK_below HO2.out hb3, by omega, HWD.out, Ch.own_base hCO HG2.out.size, hC7⟩
  clear hcopyC hCO hb3 hA2 HG2 HO2 q1' hQl
  generalize R.L = L0 at HS3 HWD
  clear HWD
  go_wp2_with fail
  refine (Cur.once c a len cap 6 _ hl (by omega) HS3.out.at').mono ?_
  rintro e w4 ⟨b4, rfl, hA4, hG4⟩
  have HS4 : Hid (LcSt c a len cap w w4 v L0 ao ac C) := HS3.out.grown hcw hA4 hG4
  clear hA4 hG4 HS3
  go_upto_if 16 with fail
  go_cut [6] (fun cv wx => ∃ ao' ac' C', cv = .slice ao' (C' : List Int).length ac' ∧ Hid (LcSt c a len cap w wx v L0 ao' ac' C'))
  case first =>
    cases b4
    · go_wp2_with fail
      go_meet
      exact ⟨ao, ac, C, rfl, HS4⟩
    · go_wp2_with fail
      refine (l8Draw c a len cap _ hl HS4.out.at').mono ?_
      rintro e w5 ⟨g5, c5, C5, rfl, hC5, hO5, hA5, hG5⟩
      have HS5 : Hid (LcSt c a len cap w w5 v L0 (some ⟨g5, 0, none⟩) c5 C5) := ⟨hA5, Cur.grownBy_trans HS4.out.gr hG5, ownK_grown HS4.out.lo hG5 hcw, HS4.out.l61, HS4.out.wd, Ch.own_base hO5 HS4.out.gr.size, hC5⟩
      clear hO5 hA5 hG5 HS4
      go_wp2_with fail
      go_meet
      exact ⟨some ⟨g5, 0, none⟩, c5, C5, rfl, HS5⟩
  case rest =>
    obtain ⟨ao6, c6, C6, rfl, HS6⟩ := hcut
    clear HS4
    go_wp2_with fail
    refine (Cur.once c a len cap 10 _ hl (by omega) HS6.out.at').mono ?_
    rintro e w7 ⟨b7, rfl, hA7, hG7⟩
    have HS7 : Hid (LcSt c a len cap w w7 v L0 ao6 c6 C6) := HS6.out.grown hcw hA7 hG7
    clear hA7 hG7 HS6
    cases b7
    · go_wp2
      refine bodyPost_ret (v := .tuple #[v, .slice ao6 C6.length c6]) (by simp [results, Tryz.f62, go_sem]) rfl ?_
      exact ⟨v, L0, ao6, c6, C6, rfl, HS7.out⟩
    · go_wp2_with fail
      refine (l3DrawAny HDD.out c a len cap _ hl HS7.out.at').mono ?_
      rintro e w8 ⟨v8, L8, rfl, hO8, h61, hwd8, hA8, hG8⟩
      have HS8 : Hid (LcSt c a len cap w w8 v8 L8 ao6 c6 C6) := ⟨hA8, Cur.grownBy_trans HS7.out.gr hG8, ownK_base hO8 HS7.out.gr.size, h61, hwd8, Draw.own_grown HS7.out.co hG8 hcw, HS7.out.c7⟩
      clear hO8 hA8 hG8 hwd8 HS7
      go_wp2
      refine bodyPost_ret (v := .tuple #[v8, .slice ao6 C6.length c6]) (by simp [results, Tryz.f62, go_sem]) rfl ?_
      exact ⟨v8, L8, ao6, c6, C6, rfl, HS8.out⟩

structure DrawnC (w w' : World) (v : Value) (L : List K) (ao : Option Addr) (cc : Nat) (C : List Int) : Prop where
  dr : Drawn w.heap.size w w' v L
  co : Memb.Own w.heap.size w' ao cc C
  c7 : C.length ≤ 7
theorem drawnC_of {a : Option Addr} {len cap : Nat} {w w1 w' : World} {v : Value} {L : List K} {ao : Option Addr} {cc : Nat} {C : List Int} (hb1 : Below w.heap.size w w1) (s : LcSt w.heap.size a len cap w1 w' v L ao cc C) : DrawnC w w' v L ao cc C :=
  ⟨⟨ownK_base s.lo hb1.size, s.l61, s.wd, Draw.below_of_grown hb1 (Nat.le_refl _) s.gr⟩, Ch.own_base s.co hb1.size, s.c7⟩

theorem own_at {B : Nat} {w : World} {ao : Option Addr} {cap : Nat} {l : List Int} (h : Memb.Own B w ao cap l) : ∀ c, ao = some ⟨c, 0, none⟩ → c < w.heap.size := fun c e => by subst e; exact (World.ownsRow.lt h c rfl).2

theorem ownK_at {B : Nat} {w : World} {g cp : Nat} {L : List K} (h : OwnK 42 B w (.slice (some ⟨g, 0, none⟩) L.length cp) L) : g < w.heap.size ∧ RdK w (some ⟨g, 0, none⟩) L := by
  obtain ⟨g', cp', e, _, _, _, hlt, hrd, _⟩ := Lc.ownK_shape h
  injection e with e _ _
  injection e with e
  injection e with e
  subst e
  exact ⟨hlt, hrd⟩

set_option maxHeartbeats 3200000 in
theorem drawEarlier (HD : DrawsRoom) (HDC : DrawsRoomC) (a : Option Addr) (len cap : Nat) (w : World) (hl : len ≤ 4096) (hc : Cur.Code w a len) :
    Calls Tryz.prog 28 #[.slice a len cap] w fun e w' => ∃ v L ao cc C k, e = .returned (.tuple #[v, .slice ao (C : List Int).length cc, .int .i64 k]) ∧ DrawnC w w' v L ao cc C ∧ (-9223372036854775808 ≤ k ∧ k ≤ 9223372036854775807) := by
  have HDD : Hid DrawsRoom := HD
  have HDX : Hid DrawsRoomC := HDC
  clear HD HDC
  go_enter Tryz.func28, Tryz.ntmps28
  go_wp2_with fail
  refine (Cur.new a len cap _ hl hc).mono ?_
  rintro e w1 ⟨rfl, hA1, hb1⟩
  have hlt1 := hA1.lt
  have HB1 : Hid (Below w.heap.size w w1) := hb1
  clear hb1
  go_wp2_with fail
  refine (l9Draw HDD.out HDX.out _ a len cap _ hl hA1).mono ?_
  rintro e w2 ⟨v, L, ao, cc, C, rfl, hS2⟩
  obtain ⟨g, cp, rfl, _, _, _, _, _, _⟩ := Lc.ownK_shape hS2.lo
  have h61 := hS2.l61
  have HS2 : Hid (LcSt w.heap.size a len cap w1 w2 (.slice (some ⟨g, 0, none⟩) L.length cp) L ao cc C) := hS2
  clear hS2 hA1
  by_cases h4 : 4 < L.length
  · have h4i : (4 : Int) < (L.length : Int) := by omega
    go_wp2_with fail
    refine (Cur.once w.heap.size a len cap 2 _ hl (by omega) HS2.out.at').mono ?_
    rintro e w3 ⟨b, rfl, hA3, hG3⟩
    have HS3 : Hid (LcSt w.heap.size a len cap w1 w3 (.slice (some ⟨g, 0, none⟩) L.length cp) L ao cc C) := HS2.out.grown hlt1 hA3 hG3
    clear hA3 hG3 HS2
    cases b
    · go_wp2_with fail
      refine (l3DrawAt _ a len cap L.length _ hl h61 HS3.out.at').mono ?_
      rintro e w7 ⟨r, rfl, hr, hA7, hG7⟩
      have HF : Hid (DrawnC w w7 (.slice (some ⟨g, 0, none⟩) L.length cp) L ao cc C) := drawnC_of HB1.out (HS3.out.grown hlt1 hA7 hG7)
      clear HS3 hA7 hG7
      go_wp2
      refine bodyPost_ret (v := .tuple #[.slice (some ⟨g, 0, none⟩) L.length cp, .slice ao C.length cc, .int .i64 r]) (by simp [results, Tryz.f28, go_sem]) rfl ?_
      exact ⟨_, L, ao, cc, C, r, rfl, HF.out, hr⟩
    · go_wp2_with fail
      refine (Cur.below w.heap.size a len cap 4 _ hl (by omega) HS3.out.at').mono ?_
      rintro e w7 ⟨x, rfl, hx0, hx1, hA7, hG7⟩
      have hx2 := hx1 (by omega)
      have HF : Hid (DrawnC w w7 (.slice (some ⟨g, 0, none⟩) L.length cp) L ao cc C) := drawnC_of HB1.out (HS3.out.grown hlt1 hA7 hG7)
      have e1 : IntKind.i64.wrap ((L.length : Int) - 1) = (L.length : Int) - 1 := by rw [IntKind.wrap_i64]; omega
      have e2 : IntKind.i64.wrap ((L.length : Int) - 1 - x) = (L.length : Int) - 1 - x := by rw [IntKind.wrap_i64]; omega
      clear HS3 hA7 hG7 hx1
      go_wp2
      refine bodyPost_ret (v := .tuple #[.slice (some ⟨g, 0, none⟩) L.length cp, .slice ao C.length cc, .int .i64 ((L.length : Int) - 1 - x)]) (by simp [results, Tryz.f28, go_sem]) rfl ?_
      exact ⟨_, L, ao, cc, C, _, rfl, HF.out, by omega⟩
  · have h4i : ¬ (4 : Int) < (L.length : Int) := by omega
    go_wp2_with fail
    refine (l3DrawAt _ a len cap L.length _ hl h61 HS2.out.at').mono ?_
    rintro e w7 ⟨r, rfl, hr, hA7, hG7⟩
    have HF : Hid (DrawnC w w7 (.slice (some ⟨g, 0, none⟩) L.length cp) L ao cc C) := drawnC_of HB1.out (HS2.out.grown hlt1 hA7 hG7)
    clear HS2 hA7 hG7
    go_wp2
    refine bodyPost_ret (v := .tuple #[.slice (some ⟨g, 0, none⟩) L.length cp, .slice ao C.length cc, .int .i64 r]) (by simp [results, Tryz.f28, go_sem]) rfl ?_
    exact ⟨_, L, ao, cc, C, r, rfl, HF.out, hr⟩

end Rm
namespace Rm
open Kn (K okK)
open Bit (bit memTo)
open Lc (at' RdK laceB flat OwnK cellsOf)
open Sg (bel belows orB seesB isB NumsPost)
open Ch (leadK)

open Cur (At)

structure CoinsW (w : World) (ao : Option Addr) (C : List Int) : Prop where
  rd : Lst.Rd w ao C
  at' : ∀ c, ao = some ⟨c, 0, none⟩ → c < w.heap.size
  len : C.length ≤ 7
theorem CoinsW.below {w w' : World} {ao : Option Addr} {C : List Int} (h : CoinsW w ao C) (hb : Below w.heap.size w w') : CoinsW w' ao C :=
  ⟨Ch.rd_below h.rd h.at' hb, fun c e => Nat.lt_of_lt_of_le (h.at' c e) hb.size, h.len⟩
theorem coinsW_of {w w' : World} {v : Value} {L : List K} {ao : Option Addr} {cc : Nat} {C : List Int} (h : DrawnC w w' v L ao cc C) : CoinsW w' ao C := ⟨Lst.own_rd h.co, own_at h.co, h.c7⟩
structure LiesC (w : World) (g : Nat) (L : List K) (ao : Option Addr) (C : List Int) : Prop where
  l : LiesS w g L
  lt : g < w.heap.size
  c : CoinsW w ao C
theorem LiesC.below {w w' : World} {g : Nat} {L : List K} {ao : Option Addr} {C : List Int} (h : LiesC w g L ao C) (hb : Below w.heap.size w w') : LiesC w' g L ao C := ⟨h.l.below hb, Nat.lt_of_lt_of_le h.lt hb.size, h.c.below hb⟩
theorem drawn_liesC {w w' : World} {v : Value} {L : List K} {ao : Option Addr} {cc : Nat} {C : List Int} (h : DrawnC w w' v L ao cc C) : ∃ g cp, v = .slice (some ⟨g, 0, none⟩) L.length cp ∧ L.length ≤ cp ∧ LiesC w' g L ao C := by
  obtain ⟨g, cp, rfl, hcp, hL⟩ := drawn_liesS h.dr
  exact ⟨g, cp, rfl, hcp, hL, (ownK_at h.dr.own).1, coinsW_of h⟩

end Rm
namespace Ch
open Kn (K okK)
open Bit (bit)
open Lc (at' laceB)
open Sg (isB bel)
open Sl (sealN sealsB)

theorem chF_in (L : List K) (C : List Int) : ∀ (f : Nat) (k x : Int), x ∈ chF L C f k → 0 ≤ x ∧ x ≤ k := by
  intro f
  induction f with
  | zero => intro k x h; simp [chF] at h
  | succ f ih =>
    intro k x h
    unfold chF at h
    by_cases hk : k < 0
    · rw [if_pos hk] at h; simp at h
    · rw [if_neg hk] at h
      rcases List.mem_append.1 h with h | h
      · have h1 := ih _ _ h
        have h2 := earlier_lt L C k.toNat
        omega
      · simp at h; omega
theorem chain_in {L : List K} {C : List Int} {k x : Int} (h : x ∈ chainL L C k) : 0 ≤ x ∧ x ≤ k := chF_in L C _ _ _ h

theorem earlier_cases (L : List K) (C : List Int) (k : Nat) : (earlierN L C k = -1 ∧ ∀ x, x < k → earN L C k x = false) ∨ ∃ e : Nat, earlierN L C k = (e : Int) ∧ e < k ∧ earN L C k e = true ∧ ∀ x, x < k → earN L C k x = true → (at' L x).round ≤ (at' L e).round := by
  rcases ear_spec L C k k with h | ⟨e, h1, h2, h3, h4⟩
  · exact .inl h
  · exact .inr ⟨e, h1, h2, h3, fun x hx hc => (h4 x hx hc).1⟩

theorem chain_ne (L : List K) (C : List Int) (k : Nat) : 0 < (chainL L C (k : Int)).length := by
  rw [chain_step]; simp
end Ch
namespace Rm
open Kn (K okK)
open Bit (bit memTo)
open Lc (at' RdK laceB flat OwnK cellsOf)
open Cur (At)

end Rm
end Go.Proofs.YtflhaiakhfmmmaaGreat
