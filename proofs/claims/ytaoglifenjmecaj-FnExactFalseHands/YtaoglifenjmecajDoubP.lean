/-
  What the program's own putApart leaves in its map: of all two of a set those of which the greater one doesn't see the lesser one; for laces.
-/
import Derived.Test.YtaoglifenjmecajDoubK
import Derived.Test.YtaoglifenjmecajDoubN
import Derived.Test.YtaoglifenjmecajSightX
import Derived.BigRegionIn
namespace Go.Proofs.Ytaoglifenjmecaj
open Go.RowKit Go.Shelf
open Go.ChangeMaps (setBlock)
set_option maxRecDepth 100000
attribute [local go_sem] Oper.semAt_some
namespace Db
open Kn (K okK)
open Bit (bit withB)
open Lc (at' RdK WordsOk laceB setB)
open Sg (vis oneI)

/-- the marks that loops over functions leave, the last one first -/
def Marks (lo : Nat) (w : World) : Nat → List Deferred → Prop
  | _, [] => True
  | hi, d :: ds => ∃ r, lo ≤ r ∧ r < hi ∧ d.target = .collected r ∧ w.heap[r]? = some (.deferred (some [])) ∧ Marks lo w r ds

theorem Marks.kept {lo : Nat} {w w' : World} {M : Nat} (hM : M < lo) (hg : w.grownBy w' (some M)) : ∀ (ds : List Deferred) (hi : Nat), Marks lo w hi ds → Marks lo w' hi ds := by
  intro ds
  induction ds with
  | nil => intro hi _; trivial
  | cons d ds ih =>
    intro hi h
    obtain ⟨r, h1, h2, h3, h4, h5⟩ := h
    exact ⟨r, h1, h2, h3, (hg.block r (Array.getElem?_eq_some_iff.1 h4).1 (fun e => by cases e; omega)).trans h4, ih r h5⟩

theorem Marks.mono {lo : Nat} {w : World} {hi hi' : Nat} (hh : hi ≤ hi') : ∀ (ds : List Deferred), Marks lo w hi ds → Marks lo w hi' ds := by
  intro ds h
  cases ds with
  | nil => trivial
  | cons d ds =>
    obtain ⟨r, h1, h2, h3⟩ := h
    exact ⟨r, h1, by omega, h3⟩

theorem Marks.under {lo : Nat} {w w' : World} : ∀ (ds : List Deferred) (hi : Nat), (∀ r, r < hi → w'.heap[r]? = w.heap[r]?) → Marks lo w hi ds → Marks lo w' hi ds := by
  intro ds
  induction ds with
  | nil => intro hi _ _; trivial
  | cons d ds ih =>
    intro hi hs h
    obtain ⟨r, h1, h2, h3, h4, h5⟩ := h
    exact ⟨r, h1, h2, h3, (hs r h2).trans h4, ih r (fun r' hr' => hs r' (by omega)) h5⟩

theorem leaves_marks {F : Fence} {n : Nat} {P : Program} {fn : Func} {tmps : Array Value} {R : Ending → World → Prop} (hfn : fn.results = #[]) (lo : Nat) : ∀ (ds : List Deferred) (hi : Nat) (w : World), lo ≤ w.heap.size → Marks lo w hi ds →
    (∀ w', Below lo w w' → R (.returned (.tuple #[])) w') → LeavesInM F n P fn tmps R ds .returning w := by
  intro ds
  induction ds with
  | nil =>
    intro hi w _ _ hR
    exact ⟨_, results_none hfn _ _ _, hR w (Below.refl _ _)⟩
  | cons d ds ih =>
    intro hi w hlo h hR
    obtain ⟨r, h1, h2, h3, h4, h5⟩ := h
    refine ⟨by simp, .inl ⟨r, _, h3, run_takeDeferred h4, ?_⟩⟩
    have hb : Below lo w (w.putObj r (.deferred none)) := (Below.refl lo w).grown (grownBy_putObj' w r (.deferred none)) hlo (fun k e => by cases e; exact h1)
    refine ih r _ (Nat.le_trans hlo hb.size) (Marks.under ds r (fun r' hr' => World.putObj_heap_other (by omega)) h5) (fun w' hw' => hR w' (hb.trans hw'))

theorem grown_cell {A B : World} {M : Nat} (hg : A.grownBy B (some M)) {p : Addr} (hb : p.block < A.heap.size) (hne : p.block ≠ M) : B.cell? p = A.cell? p :=
  World.cell?_of_block (w := A) (hg.block p.block hb (fun e => hne (by cases e; rfl)))

theorem grown_drew {A B : World} {row : Option Nat} (h : A.grownBy B row) : A.grownBy B.drew row := ⟨h.os, h.tape, h.output, h.size, h.block⟩

theorem below_grown {A B : World} (h : Below A.heap.size A B) (row : Option Nat) : A.grownBy B row := ⟨h.os, h.tape, h.output, h.size, fun i hi _ => h.block i hi⟩

theorem grown_own {A B C : World} {M : Nat} {row : Option Nat} (h : A.grownBy B (some M)) (h2 : B.grownBy C row) (hr : ∀ r, row = some r → A.heap.size ≤ r) : A.grownBy C (some M) :=
  ⟨h2.os.trans h.os, h2.tape.trans h.tape, h2.output.trans h.output, Nat.le_trans h.size h2.size, fun k hk hne => (h2.block k (Nat.lt_of_lt_of_le hk h.size) (fun e => by have := hr k e.symm; omega)).trans (h.block k hk hne)⟩

theorem grown_below {A B C : World} {M : Nat} (h : A.grownBy B (some M)) (h2 : Below A.heap.size B C) : A.grownBy C (some M) :=
  ⟨h2.os.trans h.os, h2.tape.trans h.tape, h2.output.trans h.output, Nat.le_trans h.size h2.size, fun k hk hne => (h2.block k hk).trans (h.block k hk hne)⟩

theorem apart_block {A B : World} {M n : Nat} {S : Nat → Nat → Bool} (h : Apart A M n S) (hb : B.heap[M]? = A.heap[M]?) : Apart B M n S := by
  obtain ⟨D, ⟨es, clock, hbl, r⟩, r2⟩ := h
  exact ⟨D, ⟨es, clock, hb.trans hbl, r⟩, r2⟩

theorem rd_grown {A B : World} {M g off : Nat} {L : List K} (h : RdK A (some ⟨g, off, none⟩) L) (hg : A.grownBy B (some M)) (hne : g ≠ M) : RdK B (some ⟨g, off, none⟩) L := by
  rcases h with h | ⟨g', off', e, hlt, hc⟩
  · exact .inl h
  · cases e
    refine .inr ⟨g, off, rfl, Nat.lt_of_lt_of_le hlt hg.size, fun i hi => ?_⟩
    have c := hc i hi
    have f : ∀ o : Nat, B.cell? ⟨g, o, none⟩ = A.cell? ⟨g, o, none⟩ := fun o => grown_cell hg (p := ⟨g, o, none⟩) hlt hne
    exact ⟨(f _).trans c.c0, (f _).trans c.c1, (f _).trans c.c2, (f _).trans c.c3⟩

set_option maxHeartbeats 2000000 in
theorem putApart (n₀ g off cap M : Nat) (L : List K) (S : Int) (w : World) (hlc : laceB L = true) (hin : ∀ x ∈ Memb.memI S, 0 ≤ x ∧ x < (L.length : Int)) (hri : Rise (Memb.memI S)) (hg : g < n₀) (hn : n₀ ≤ M) (hr : RdK w (some ⟨g, off, none⟩) L) (hm : Apart w M 0 (fun _ _ => false)) :
    Calls Try.prog 57 #[.slice (some ⟨g, off, none⟩) L.length cap, .map (some M), .int .i64 S] w fun e w' => e = .returned (.tuple #[]) ∧ w.grownBy w' (some M) ∧ ∃ c, Apart w' M c (apartB L (Memb.memI S)) := by
  have h60 := ((Lc.lace_iff L).1 hlc).1
  have hM := hm.lt
  refine (callsIn_wide (n := 3)).1 ?_
  refine callsIn_of_wp_marks Try.func57 rfl trivial ?_ rfl
  simp only [Try.ntmps57, List.size_toArray, List.length_cons, List.length_nil, Nat.reduceAdd, Nat.reduceSub, Array.replicate_succ, Array.replicate_zero, List.push_toArray, List.append_toArray, List.nil_append, List.cons_append]
  have cb := Sg.boxNew w (.map (some M)) 74
  gi_wp2_with (first | (refine ⟨trivial, ?_⟩; gi_at_call 60; refine (callsIn_wide.2 (Memb.picked S _)).mono ?_; rintro e w1 ⟨ao, bc, rfl, hown, hb1⟩))
  have hl60 := Memb.memI_le S
  generalize hlS : Memb.memI S = l at hin hri hown hl60 ⊢
  have HL : Hid (Memb.memI S = l) := hlS
  clear hlS
  have hG1 : w.grownBy w1 (some M) := (World.grownBy_alloc w _ _).trans (below_grown hb1 _)
  have hs1 : w.heap.size < w1.heap.size := by have := hb1.size; simp at this; omega
  have cb1 : w1.cell? ⟨w.heap.size, 0, none⟩ = some (.map (some M)) := (hb1.cell (p := ⟨w.heap.size, 0, none⟩) (by simp)).trans cb.1
  have hr1 : RdK w1 (some ⟨g, off, none⟩) L := (hr.below ((Below.refl _ w).alloc (Nat.le_refl _) _)).below hb1
  have hm1 : Apart w1 M 0 (doneP L l 0) := ((hm.kept (World.grownBy_alloc w _ none) (by simp)).kept (below_grown hb1 none) (by simp)).of (fun i j _ _ => by unfold doneP; simp)
  have hrd := Lst.own_rd hown
  have hblk : l ≠ [] → ∃ gb, ao = some ⟨gb, 0, none⟩ ∧ w.heap.size < gb ∧ gb < w1.heap.size := fun hl => by
    obtain ⟨gb, e, h1, h2⟩ := Lst.own_block hown hl
    exact ⟨gb, e, by simp at h1; omega, h2⟩
  have hcap : l.length ≤ bc := by
    obtain ⟨_, ⟨hv, hz⟩ | ⟨_, cp, _, hv, _, _, hle, _⟩⟩ := hown
    · omega
    · simp only [Value.slice.injEq] at hv; omega
  clear hown hb1 cb hm hr
  refine wpIn_loop (fun a' wr => ∃ (i : Nat) (ds : List Deferred) (u7 u8 u10 u11 u18 u19 u20 u21 u22 u23 u24 u25 u26 u27 u28 u29 u30 u31 u32 u33 u34 u35 u36 u37 u38 u39 u40 u41 u42 u43 u44 u45 u46 u47 u48 : Value), (i ≤ l.length ∧ Hid (w1.grownBy wr (some M)) ∧ Hid (Apart wr M (60 * i) (doneP L l i)) ∧ Hid (Marks w1.heap.size wr wr.heap.size ds)) ∧ a' = { tmps := #[.slice (some ⟨g, off, none⟩) L.length cap, .map (some M), .int .i64 S, undef, .pointer (some ⟨w.heap.size, 0, none⟩), undef, .slice ao l.length bc, u7, u8, undef, u10, u11, .int .i64 S, .func (.func 54) #[.int .i64 S] #[], .slice ao l.length bc, .slice ao l.length bc, .int .i64 (l.length : Int), .int .i64 (i : Int), u18, u19, u20, u21, u22, u23, u24, u25, u26, u27, u28, u29, u30, u31, u32, u33, u34, u35, u36, u37, u38, u39, u40, u41, u42, u43, u44, u45, u46, u47, u48], defers := ds }) (fun a' _ => l.length - (intOf (a'.tmps.getD 17 undef)).toNat) ?start ?round
  case start => exact ⟨0, [], _, _, _, _, _, _, _, _, _, _, _, _, _, _, _, _, _, _, _, _, _, _, _, _, _, _, _, _, _, _, _, _, _, _, _, ⟨by omega, below_grown (Below.refl _ w1) _, hm1, trivial⟩, rfl⟩
  case round =>
    rintro a' wq ⟨i, ds, u7, u8, u10, u11, u18, u19, u20, u21, u22, u23, u24, u25, u26, u27, u28, u29, u30, u31, u32, u33, u34, u35, u36, u37, u38, u39, u40, u41, u42, u43, u44, u45, u46, u47, u48, ⟨hi, HG, HA, HM⟩, rfl⟩
    by_cases hlt : i < l.length
    · obtain ⟨gb, rfl, hgb0, hgb1⟩ := hblk (by intro e; rw [e] at hlt; simp at hlt)
      have hcl : ∀ j, j < l.length → w1.cell? ⟨gb, j, none⟩ = some (.int .i64 (l.getD j 0)) := by
        rcases hrd with e | ⟨gb', e, h⟩
        · rw [e] at hlt; simp at hlt
        · cases e; exact h
      have hxy := hin (l.getD i 0) (by simp [hlt])
      obtain ⟨y, hy⟩ := Int.eq_ofNat_of_zero_le hxy.1
      have hyl : y < L.length := by omega
      have ci : wq.cell? ⟨gb, i, none⟩ = some (.int .i64 (y : Int)) := (grown_cell HG.out (p := ⟨gb, i, none⟩) hgb1 (by simp; omega)).trans (by rw [hcl i hlt, hy])
      gi_wp2
      have hW2 : w1.grownBy (wq.alloc (.cells #[.int .i64 (y : Int)] 2)) (some M) := HG.out.trans (World.grownBy_alloc wq _ _)
      have hA2 : Apart (wq.alloc (.cells #[.int .i64 (y : Int)] 2)) M (60 * i) (midP L l i y 0) := (HA.out.kept (World.grownBy_alloc wq _ none) (by simp)).of (fun a b _ _ => (mid_zero L l i y a b).symm)
      have cy := (Sg.boxNew wq (.int .i64 (y : Int)) 2).1
      have hy2 : wq.heap.size < (wq.alloc (.cells #[.int .i64 (y : Int)] 2)).heap.size := by simp
      have hMk : Marks w1.heap.size (wq.alloc (.cells #[.int .i64 (y : Int)] 2)) wq.heap.size ds := Marks.kept (Nat.lt_trans hM (by omega)) (World.grownBy_alloc wq _ (some M)) ds _ HM.out
      have hws := HG.out.size
      generalize wq.alloc (.cells #[.int .i64 (y : Int)] 2) = W2 at hW2 hA2 cy hy2 hMk ⊢
      have HW2 : Hid (w1.grownBy W2 (some M)) := hW2
      have HMk : Hid (Marks w1.heap.size W2 wq.heap.size ds) := hMk
      clear hW2 hMk ci HG HA HM
      gi_loopw [26] (fun v wt => ∃ t : Nat, t ≤ i ∧ v = .int .i64 (t : Int) ∧ Hid (W2.grownBy wt (some M)) ∧ Hid (Apart wt M (60 * i + t) (midP L l i y t))) (fun v _ => i - (intOf v).toNat)
      case atStart => exact ⟨0, by omega, rfl, below_grown (Below.refl _ W2) _, hA2⟩
      case round =>
        obtain ⟨t, ht, rfl, HG, HA⟩ := hrel
        by_cases hti : t < i
        · have hxz := hin (l.getD t 0) (by simp; rw [List.getElem?_eq_getElem (by omega)]; simp)
          obtain ⟨x, hx⟩ := Int.eq_ofNat_of_zero_le hxz.1
          have ct : wr.cell? ⟨gb, t, none⟩ = some (.int .i64 (x : Int)) := (grown_cell (HW2.out.trans HG.out) (p := ⟨gb, t, none⟩) hgb1 (by simp; omega)).trans (by rw [hcl t (by omega), hx])
          have hx60 : x < 60 := by omega
          have hy60 : y < 60 := by omega
          have cM : wr.cell? ⟨w.heap.size, 0, none⟩ = some (.map (some M)) := (grown_cell (HW2.out.trans HG.out) (p := ⟨w.heap.size, 0, none⟩) hs1 (by simp; omega)).trans cb1
          have cY : wr.cell? ⟨wq.heap.size, 0, none⟩ = some (.int .i64 (y : Int)) := (grown_cell HG.out (p := ⟨wq.heap.size, 0, none⟩) hy2 (by simp; omega)).trans cy
          obtain ⟨c, v0, st, o1, P⟩ := apart_puts HA.out (show 60 * i + t < 100000 by omega) x y hx60 hy60
          obtain ⟨o2, hst, hA3, _⟩ := P.store (wrap64 (c + 1)) (wrap64_wf _)
          have q1 : (Instr.lookup 74 (.map (some M)) (pv x y) false).run Try.prog wr.drew = .ok (.int .i64 c) wr.drew := P.look 1
          have q2 : (Instr.mapEntry 74 (.map (some M)) (pv x y)).run Try.prog wr.drew = .ok (.tuple #[v0, .int .i64 (st : Int)]) (setBlock wr.drew M o1) := P.entry 1
          have q3 : (Instr.lookup 74 (.map (some M)) (pv x y) false).run Try.prog (setBlock wr.drew M o1) = .ok (.int .i64 c) (setBlock wr.drew M o1) := P.look1 1
          have q4 : (Instr.entryStore 74 (.map (some M)) (.int .i64 (st : Int)) (.int .i64 (wrap64 (c + 1)))).run Try.prog (setBlock wr.drew M o1) = .ok () (setBlock wr.drew M o2) := hst 1
          have HA3 : Hid (Apart (setBlock wr.drew M o2) M (60 * i + t + 1) (midP L l i y (t + 1))) := by
            refine Apart.of (S := fun i_1 j => midP L l i y t i_1 j || (decide (i_1 = x) && decide (j = y))) hA3 (fun a b _ _ => ?_)
            rw [mid_step L l i y t (by omega), hx, Int.toNat_natCast]
          have HG3 : Hid (W2.grownBy (setBlock wr.drew M o2) (some M)) := (grown_drew HG.out).trans (grown_setBlock wr.drew M o2)
          clear hst hA3 P hxz
          gi_wp2
          gi_region
          gi_wp2
          go_roundw
          case rel => exact ⟨t + 1, by omega, by go_num, HG3, HA3⟩
          case measure => simp [intOf]; omega
        · obtain rfl : t = i := by omega
          have cM : wr.cell? ⟨w.heap.size, 0, none⟩ = some (.map (some M)) := (grown_cell (HW2.out.trans HG.out) (p := ⟨w.heap.size, 0, none⟩) hs1 (by simp; omega)).trans cb1
          have cY : wr.cell? ⟨wq.heap.size, 0, none⟩ = some (.int .i64 (y : Int)) := (grown_cell HG.out (p := ⟨wq.heap.size, 0, none⟩) hy2 (by simp; omega)).trans cy
          have hB0 : wr.grownBy ((wr.alloc (.cells #[.slice (some ⟨g, off, none⟩) L.length cap] 47)).alloc (.cells #[.int .i64 (oneI (y : Int))] 55)) (some M) := (World.grownBy_alloc wr _ _).trans (World.grownBy_alloc _ _ _)
          have hA0 : wr.grownBy ((wr.alloc (.cells #[.slice (some ⟨g, off, none⟩) L.length cap] 47)).alloc (.cells #[.int .i64 (oneI (y : Int))] 55)) none := (World.grownBy_alloc wr _ _).trans (World.grownBy_alloc _ _ _)
          gi_wp2_with (first | (refine ⟨trivial, ?_⟩; gi_at_call 56; refine (callsIn_wide.2 (Base.withM _ _ _)).mono ?_; rintro e w' ⟨rfl, rfl⟩; rw [Sg.with_one]) | (refine ⟨trivial, ?_⟩; gi_at_call 74; refine (callsIn_wide.2 (Sg.under _ _ _ _ _)).mono ?_; rintro e w' ⟨rfl, rfl⟩))
          have c0 := Sg.boxNew wr (.slice (some ⟨g, off, none⟩) L.length cap) 47
          have c1 := Sg.boxNew (wr.alloc (.cells #[.slice (some ⟨g, off, none⟩) L.length cap] 47)) (.int .i64 (oneI (y : Int))) 55
          simp only [World.size_alloc] at c1
          have c0' := Sg.boxCell (.cells #[.int .i64 (oneI (y : Int))] 55) c0.1
          have hsz : ((wr.alloc (.cells #[.slice (some ⟨g, off, none⟩) L.length cap] 47)).alloc (.cells #[.int .i64 (oneI (y : Int))] 55)).heap.size = wr.heap.size + 1 + 1 := by simp
          generalize (wr.alloc (.cells #[.slice (some ⟨g, off, none⟩) L.length cap] 47)).alloc (.cells #[.int .i64 (oneI (y : Int))] 55) = W3 at hB0 hA0 c0' c1 hsz ⊢
          have hG3 : w1.grownBy W3 (some M) := (HW2.out.trans HG.out).trans hB0
          have hr3 : RdK W3 (some ⟨g, off, none⟩) L := rd_grown hr1 hG3 (by omega)
          have hA3 : Apart W3 M (60 * t + t) (midP L l t y t) := HA.out.kept hA0 (by simp)
          have hMr : M < wr.heap.size := HA.out.lt
          have hwr : W2.heap.size ≤ wr.heap.size := HG.out.size
          have kM := (grown_cell hB0 (p := ⟨w.heap.size, 0, none⟩) (by simp; omega) (by simp; omega)).trans cM
          have kY := (grown_cell hB0 (p := ⟨wq.heap.size, 0, none⟩) (by simp; omega) (by simp; omega)).trans cY
          have HMk3 : Hid (Marks w1.heap.size W3 wq.heap.size ds) := Marks.kept (Nat.lt_trans hM hs1) hB0 ds _ (Marks.kept (Nat.lt_trans hM hs1) HG.out ds _ HMk.out)
          have hob := Sg.oneI_bd (y : Int)
          clear cM cY HMk HG HA hA2 cy
          refine wpIn_rangeFunc_ownG rfl (by omega) (gf := 86) (lb := #[.pointer (some ⟨wr.heap.size + 1, 0, none⟩), .pointer (some ⟨wr.heap.size, 0, none⟩)]) rfl trivial (enters_of Try.func86 (by kernel_rfl) rfl)
            (Sg.under_stops 2 (by omega) (wr.heap.size + 1) wr.heap.size n₀ g off cap L hlc (oneI (y : Int)) hob.1 hob.2 hg W3 (by omega) (by omega) c1.1 c0' hr3) Sg.kpL_t (Sg.kpL_b (by omega) (by omega)) (Below.refl _ _) (fun _ => rfl)
            (fun pre W => W3.grownBy W (some M) ∧ Apart W M (60 * t + t) (delP L l t y pre))
            (fun _ _ _ => False)
            (fun s A B row hs hg hr => ⟨grown_own hs.1 hg (fun r e => (hr r e).1), hs.2.kept hg (fun e => by have := (hr M e.symm).1; omega)⟩)
            (fun _ _ _ _ _ hs _ _ => hs)
            ⟨below_grown (Below.refl _ W3) _, hA3.of (fun a b _ _ => (del_nil L l t y a b).symm)⟩
            (fun x => { tmps := #[.slice (some ⟨g, off, none⟩) L.length cap, .map (some M), .int .i64 S, undef, .pointer (some ⟨w.heap.size, 0, none⟩), undef, .slice (some ⟨gb, 0, none⟩) l.length bc, .int .i64 (t : Int), .pointer (some ⟨wq.heap.size, 0, none⟩), undef, u10, .int .i64 (x.val : Int), .int .i64 S, .func (.func 54) #[.int .i64 S] #[], .slice (some ⟨gb, 0, none⟩) l.length bc, .slice (some ⟨gb, 0, none⟩) l.length bc, .int .i64 (l.length : Int), .int .i64 (t : Int), .bool true, .int .i64 (t : Int), .pointer (some ⟨gb, t, none⟩), .int .i64 (y : Int), .slice (some ⟨gb, 0, none⟩) l.length bc, .int .i64 (t : Int), .slice (some ⟨gb, 0, none⟩) t bc, .int .i64 (t : Int), .int .i64 (t : Int), .bool false, u28, u29, u30, u31, u32, u33, u34, u35, u36, u37, u38, .slice (some ⟨g, off, none⟩) L.length cap, .int .i64 (y : Int), .int .i64 (oneI (y : Int)), .func (.func 86) #[] #[.pointer (some ⟨wr.heap.size + 1, 0, none⟩), .pointer (some ⟨wr.heap.size, 0, none⟩)], .int .i64 (x.val : Int), u44, u45, u46, u47, u48], defers := [] }) ?assign ?body ?done ?stop
          case assign =>
            intro ll x W K hK
            gi_wp2
            exact hK
          case body =>
            rintro ll pre x W ⟨hGW, hAW⟩ _
            have hx := x.isLt
            have cM := (grown_cell hGW (p := ⟨w.heap.size, 0, none⟩) (by simp; omega) (by simp; omega)).trans kM
            have cY := (grown_cell hGW (p := ⟨wq.heap.size, 0, none⟩) (by simp; omega) (by simp; omega)).trans kY
            obtain ⟨W', hd, hA', hG'⟩ := apart_drop hAW x.val y (by omega) (by omega) 0
            have HA' : Hid (Apart W' M (60 * t + t) (delP L l t y (pre ++ [x]))) := hA'.of (fun a b _ _ => (del_step L l t y pre x a b).symm)
            have HG' : Hid (W.grownBy W' (some M)) := hG'
            have HGW : Hid (W3.grownBy W (some M)) := hGW
            have hWs : W3.heap.size ≤ W.heap.size := hGW.size
            clear hAW hA' hG' hGW
            gi_wp2
            exact ⟨KeepsFrom.of_grownBy HG'.out (fun j e => by cases e; omega), ⟨(Below.refl n₀ W).grown HG'.out (by omega) (fun j e => by cases e; exact hn), HG'.out.block wr.heap.size (by omega) (fun e => by cases e; omega)⟩, HGW.out.trans HG'.out, HA'.out⟩
          case done =>
            rintro D ys W hD rfl ⟨hGW, hAW⟩ hK
            have hA4 : Apart W M (60 * (t + 1)) (doneP L l (t + 1)) := (hAW.mono (by omega)).of (fun a b _ _ => del_end hlc hri t y hlt hy hyl a b)
            have hG4 : w1.grownBy W (some M) := hG3.trans hGW
            have hM4 : Marks w1.heap.size W W.heap.size ({ target := .collected D, args := #[] } :: ds) := ⟨D, by omega, (Array.getElem?_eq_some_iff.1 hK).1, rfl, hK, Marks.mono (by omega) ds (Marks.kept (Nat.lt_trans hM hs1) hGW ds _ HMk3.out)⟩
            have HA4 : Hid (Apart W M (60 * (t + 1)) (doneP L l (t + 1))) := hA4
            have HG4 : Hid (w1.grownBy W (some M)) := hG4
            have HM4 : Hid (Marks w1.heap.size W W.heap.size ({ target := .collected D, args := #[] } :: ds)) := hM4
            clear hA4 hG4 hM4 hK hGW hAW
            gi_wp2
            exact ⟨⟨t + 1, _, _, _, _, _, _, _, _, _, _, _, _, _, _, _, _, _, _, _, _, _, _, _, _, _, _, _, _, _, _, _, _, _, _, _, _, ⟨by omega, HG4, HA4, HM4⟩, by simp; exact ⟨rfl, rfl, rfl, rfl, rfl, rfl, rfl, rfl, rfl, rfl, rfl, rfl, rfl, rfl, rfl, rfl, rfl, rfl, rfl, rfl, rfl, rfl, rfl, rfl, rfl, rfl, rfl, rfl, rfl, rfl, rfl, rfl, rfl, rfl, rfl⟩⟩, by simp [intOf]; omega⟩
          case stop =>
            rintro D c pre W _ _ h _
            exact h.elim
    · obtain rfl : i = l.length := by omega
      gi_wp2
      refine leaves_marks rfl w1.heap.size ds _ _ HG.out.size HM.out ?_
      intro w' hb
      have hG5 : w1.grownBy w' (some M) := grown_below HG.out hb
      exact ⟨rfl, hG1.trans hG5, _, by rw [HL.out]; exact apart_block HA.out (hb.block M (by omega))⟩

end Db
end Go.Proofs.Ytaoglifenjmecaj
