/-
  What one act does in a room, where the bad hand ties: the room stays one; nothing else is changed.
-/
import Derived.Test.YtfjmenhofllchaaGreatDoorRoomI
import Derived.Test.YtfjmenhofllchaaGreatDoorTieC
import Derived.Maps.AppendAt
import Derived.Deep.RegionLaw
namespace Go.Proofs.YtfjmenhofllchaaGreatDoor
open Go.RowKit
set_option maxRecDepth 100000
namespace Rm
open Kn (K okK in3)
open Sg (orB belows)
open Lc (at' RdK laceB takesB canB flat OwnK CellsK cellsOf)

theorem step_own_at {P : Program} {ops : Array Oper} {o : Oper} {a : Act} {w : World} {K : Act → World → Prop} {Q : Exit → Act → World → Prop} {E : Prop}
    (hg : o.guard = none) (s x : Operand) (t : TypeId) (hop : o.op = Op.call { callee := Callee.builtin Builtin.append, args := #[s, x], argTypes := #[t, t] })
    (base : Nat) (e : TypeId) (i : TypeInfo) (z : Value) (size bytes : Nat) (ht : P.underlying t = some (.slice e)) (hi : P.info? e = some i) (hz : i.zero = some z) (hsize : i.size = size) (hby : i.bytes = bytes) (hzs : z.cells.size = size) (hsz : 0 < size)
    (v : Value) (n : Nat) (xs : List Value) (hs : a.eval s = v) (hown : w.ownsRow base e size v n xs)
    (ad : Addr) (m c : Nat) (news : List Value) (hx : a.eval x = .slice (some ad) m c) (hl : news.length = m * size) (hnews : ∀ j u, news[j]? = some u → w.cell? (ad.add j) = some u) (h1 : ∀ u ∈ news, u.oneCell' = true)
    (h63 : n + m ≤ maxLen) (hbytes : (n + m) * bytes ≤ 140737488355328) (hbase : base ≤ w.heap.size)
    (hK : ∀ v' w', w'.ownsRow base e size v' (n + m) (xs ++ news) → w.grownBy w' v.ownBlock → (v'.ownBlock = v.ownBlock ∨ v'.ownBlock = some w.heap.size) → K (a.put o.dst v') w') :
    if Region.wanted o (yielded ops a.tmps) = true then Oper.wp P o a w K Q else E := by
  rw [if_pos (by simp [Region.wanted, hg])]
  obtain ⟨v', w', hr, h2, h3, _, h5⟩ := run_append_own_at (P := P) w base t o.type e i z size bytes ht hi hz hsize hby hzs hsz v n xs hown ad m c news hl hnews h1 h63 hbytes hbase
  unfold Oper.wp execOp
  simp only [hop, resolve, invoke, builtin, Sem.run_bind, Sem.run_pure, Result.andThen_ok, List.map_toArray, List.map_cons, List.map_nil, hs, hx, hr]
  exact hK v' w' h2 h3 h5

theorem lace_snoc {L : List K} {k : K} (hl : laceB L = true) (hk : takesB L k = true) : laceB (L ++ [k]) = true := by
  have h : (decide (L.length < 60) && canB L k) = true := hk
  rw [Bool.and_eq_true, decide_eq_true_eq] at h
  obtain ⟨h60, hc⟩ := (Lc.lace_iff L).1 hl
  refine (Lc.lace_iff _).2 ⟨by simp; omega, fun i hi => ?_⟩
  by_cases e : i < L.length
  · rw [Lc.at_left L [k] i e, List.take_append_of_le_length (by omega)]; exact hc i e
  · have : i = L.length := by simp at hi; omega
    subst this
    rw [Lc.at_end, List.take_left]; exact h.2

/-- the lace is another one -/
def putL (R : Ro) (L : List K) (v : Value) : Ro := { R with L := L, lv := v }

theorem do_lace {B p : Nat} {R : Ro} {x : Out} {w V : World} (b : Bool) (L' : List K) (v : Value) (hx : x = ⟨b, L', R.hs⟩) (hr : RoAt B w p R) (hf : Fr (fun x => R.lv.ownBlock = some x) w V) (ho : V.ownsRow B 36 4 v L'.length (flat L')) (hl : laceB L' = true) (hlen : R.L.length ≤ L'.length) (hv : ∀ g, v.ownBlock = some g → R.lv.ownBlock = some g ∨ w.heap.size ≤ g) :
    DoPost B p R x w (.returned (.bool b)) (V.setCell ⟨p, 0, none⟩ v) := by
  subst hx
  have hgl : R.gh < w.heap.size := (hr.parts.hands 0 (by omega)).lt
  have hvp : v.ownBlock ≠ some p := fun e => by
    rcases hv p e with h | h
    · exact hr.n2 h
    · have := hr.lt; omega
  have hvg : v.ownBlock ≠ some R.gh := fun e => by
    rcases hv R.gh e with h | h
    · exact hr.parts.ne h
    · omega
  have hs := Fr.set V ⟨p, 0, none⟩ v
  have hpl : p < V.heap.size := Nat.lt_of_lt_of_le hr.lt hf.size
  have hcell : ∀ j, V.cell? ⟨p, j, none⟩ = w.cell? ⟨p, j, none⟩ := fun j => hf.cell (p := ⟨p, j, none⟩) hr.lt hr.n2
  refine ⟨putL R L' v, rfl, ⟨by simpa using hpl, hr.pB, World.cell?_setCell_same _ _ _ ((hcell 0).trans hr.c0), (World.cell?_setCell_other _ _ _ _ (by simp)).trans ((hcell 1).trans hr.c1), (World.cell?_setCell_other _ _ _ _ (by simp)).trans ((hcell 2).trans hr.c2), (World.cell?_setCell_other _ _ _ _ (by simp)).trans ((hcell 3).trans hr.c3), ?_, ⟨?_, hl, fun j hj => ?_, fun j hj => (hr.parts.hok j hj).mono hlen, hr.parts.gB, hr.parts.cap, hvg⟩, hr.n1, hvp⟩, rfl, ⟨rfl, rfl, rfl, rfl⟩, ?_, hv⟩
  · rw [World.frozen?_setCell]; exact (hf.frozen (p := ⟨p, 0, none⟩) hr.lt hr.n2).trans hr.f0
  · exact own_fr hs ho (fun g hg e => hvp (by have e' : g = p := e; rw [← e']; exact hg))
  · exact hat_fr (hat_fr (hr.parts.hands j hj) hf hr.parts.ne) hs (fun e => hr.n1 e.symm)
  · exact (hf.mono (fun x hx _ => .inr (.inr hx))).trans hs (fun x hx _ => .inl hx)

/-- a knot in a block of its own -/
theorem cells_new (V : World) (k : K) (t : TypeId) : CellsK (V.alloc (.cells #[.int .i64 k.hand, .int .i64 k.round, .int .i64 k.frm, .string k.word] t)) V.heap.size 0 k := ⟨by simp, by simp, by simp, by simp⟩

/-- what comes of a knot that the bad one ties -/
def badOut (L : List K) (hs : Nat → Hd) (bad : Int) (a : Ac) : Out := if decide (0 ≤ bad) && takesB L ⟨bad, a.round, a.frm, a.word⟩ then ⟨true, L ++ [⟨bad, a.round, a.frm, a.word⟩], hs⟩ else ⟨false, L, hs⟩
theorem bad_neg {L : List K} {hs : Nat → Hd} {bad : Int} {a : Ac} (h : bad < 0) : badOut L hs bad a = ⟨false, L, hs⟩ := by unfold badOut; rw [decide_eq_false (by omega)]; rfl
theorem bad_not {L : List K} {hs : Nat → Hd} {bad : Int} {a : Ac} (h : takesB L ⟨bad, a.round, a.frm, a.word⟩ = false) : badOut L hs bad a = ⟨false, L, hs⟩ := by unfold badOut; rw [h, Bool.and_false]; rfl
theorem bad_yes {L : List K} {hs : Nat → Hd} {bad : Int} {a : Ac} (h0 : 0 ≤ bad) (h : takesB L ⟨bad, a.round, a.frm, a.word⟩ = true) : badOut L hs bad a = ⟨true, L ++ [⟨bad, a.round, a.frm, a.word⟩], hs⟩ := by unfold badOut; rw [h, decide_eq_true h0]; rfl

theorem ro_drewN {B p : Nat} {R : Ro} {w : World} (x : RoAt B w p R) (n : Nat) : RoAt B (w.drewN n) p R := roat_fr (S := fun _ => False) x ((Fr.refl _ w).drewN n) (fun _ _ h => h)
theorem dobeg_drewN {B p : Nat} {R : Ro} {a : Ac} {w W : World} (x : DoBeg B p R a w W) (n : Nat) : DoBeg B p R a w (W.drewN n) := ⟨Lc.below_drewN' x.bel n, ro_drewN x.ro n, x.lt, x.a0, x.a1, x.a2, x.a3, x.a4, x.a5⟩

theorem bad_fin {B p : Nat} {R : Ro} {x : Out} {w X V5 : World} {v' : Value} {k : K} (hx : x = ⟨true, R.L ++ [k], R.hs⟩) (hr : RoAt B w p R) (hX : Below w.heap.size w X) (ho : V5.ownsRow B 36 4 v' (R.L.length + 1) (flat R.L ++ cellsOf k)) (hg : X.grownBy V5 R.lv.ownBlock) (hat : v'.ownBlock = R.lv.ownBlock ∨ v'.ownBlock = some X.heap.size) (htk : takesB R.L k = true) :
    ∃ ao' cap', v' = .slice ao' (R.L.length + 1) cap' ∧ V5.cell? ⟨p, 0, none⟩ = some R.lv ∧ V5.frozen? ⟨p, 0, none⟩ = false ∧ Hid (DoPost B p R x w (.returned (.bool true)) (V5.setCell ⟨p, 0, none⟩ (.slice ao' (R.L.length + 1) cap'))) := by
  have hf : Fr (fun x => R.lv.ownBlock = some x) w V5 := (Fr.of_below hX _).trans (Fr.of_own hg) (fun x hx _ => hx)
  have hlen : (R.L ++ [k]).length = R.L.length + 1 := by simp
  have ho' : V5.ownsRow B 36 4 v' (R.L ++ [k]).length (flat (R.L ++ [k])) := by rw [hlen, Lc.flat_snoc]; exact ho
  obtain ⟨ao', cap', hv, _⟩ := own_lace ho'
  rw [hlen] at hv
  have hD := do_lace true (R.L ++ [k]) v' hx hr hf ho' (lace_snoc hr.parts.lace htk) (by omega) (fun g hg' => by
    rcases hat with h | h
    · exact .inl (h ▸ hg')
    · rw [h] at hg'; injection hg' with hg'; exact .inr (by have := hX.size; omega))
  subst hv
  exact ⟨ao', cap', rfl, (hf.cell (p := ⟨p, 0, none⟩) hr.lt hr.n2).trans hr.c0, (hf.frozen (p := ⟨p, 0, none⟩) hr.lt hr.n2).trans hr.f0, hD⟩

set_option maxHeartbeats 3200000 in
theorem doBad (B p : Nat) (R : Ro) (a : Ac) (w : World) (hr : RoAt B w p R) (hk : a.kind = 5) (hwd : a.word.size ≤ 1099511627776) (x : Out) (HX : Hid (x = badOut R.L R.hs R.bad a)) : Calls Tryz.prog 114 #[.pointer (some ⟨p, 0, none⟩), acV a] w (DoPost B p R x w) := by
  obtain ⟨kind, who, knot, round, frm, word⟩ := a
  obtain rfl : kind = 5 := hk
  have P0 : Hid (DoBeg B p R ⟨5, who, knot, round, frm, word⟩ w (w.alloc (acO ⟨5, who, knot, round, frm, word⟩))) := dobeg _ hr
  have HR : Hid (RoAt B w p R) := hr
  have hcall := in3_call who _ rfl
  obtain ⟨i0, hi, hz0, hz1, hz2⟩ := info_parts Lc.infoKn
  clear hr
  generalize in3 who = wi at hcall
  go_enter Tryz.func114, Tryz.ntmps114
  go_wp2_with fail
  generalize w.alloc (acO ⟨5, who, knot, round, frm, word⟩) = W at P0 ⊢
  have c3 := P0.out.ro.c3
  obtain ⟨_, _, _, a0, a1, a2, a3, a4, a5⟩ := P0.out
  go_upto_region 1 with fail
  go_cut [5] (fun g wx => ∃ n, wx = W.drewN n ∧ ∃ x : Bool, g = .bool x)
  case first =>
    cases wi
    · go_quiet (first | (go_at_call 47; exact (hcall _).mono fun _ _ h => ⟨h.1, _, h.2⟩))
      go_wp2
      go_meet
      exact ⟨_, rfl, _, rfl⟩
    · cases hq1 : (who != R.bad)
      · go_quiet (first | (go_at_call 47; exact (hcall _).mono fun _ _ h => ⟨h.1, _, h.2⟩))
        go_wp2
        go_meet
        exact ⟨_, rfl, _, rfl⟩
      · go_quiet (first | (go_at_call 47; exact (hcall _).mono fun _ _ h => ⟨h.1, _, h.2⟩))
        go_wp2
        go_meet
        exact ⟨_, rfl, _, rfl⟩
  case rest =>
    obtain ⟨n, rfl, g, rfl⟩ := hcut
    have P1 : Hid (DoBeg B p R ⟨5, who, knot, round, frm, word⟩ w (W.drewN n)) := dobeg_drewN P0.out n
    clear a0 a1 a2 a3 a4 a5 c3 P0 hcall
    generalize W.drewN n = W1 at P1 ⊢
    have c3 := P1.out.ro.c3
    have hplt := P1.out.ro.lt
    obtain ⟨_, _, hlt, a0, a1, a2, a3, a4, a5⟩ := P1.out
    have HLA : Hid (∀ t, CellsK (W1.alloc (.cells #[.int .i64 R.bad, .int .i64 round, .int .i64 frm, .string word] t)) W1.heap.size 0 ⟨R.bad, round, frm, word⟩) := fun t => cells_new W1 ⟨R.bad, round, frm, word⟩ t
    go_upto_region 3 with fail
    go_cut [6] (fun kp wx => ∃ kb : Nat, kp = .pointer (some ⟨kb, 0, none⟩) ∧ Hid (CellsK wx kb 0 ⟨R.bad, round, frm, word⟩ ∧ w.heap.size ≤ kb ∧ kb < wx.heap.size ∧ Below w.heap.size w wx))
    case first =>
      go_region
      all_goals (go_wp2_with fail)
      all_goals go_meet
      all_goals exact ⟨_, rfl, ⟨(HLA.out _).c0, (HLA.out _).c1, (HLA.out _).c2, (HLA.out _).c3⟩, P1.out.bel.size, by simp, (P1.out.bel.alloc P1.out.bel.size _).drew⟩
    case rest =>
      obtain ⟨kb, rfl, HS⟩ := hcut
      clear a0 a1 a2 a3 a4 a5 c3 hplt hlt P1 HLA
      have HK : Hid (CellsK wc kb 0 ⟨R.bad, round, frm, word⟩) := HS.out.1
      have hkl := HS.out.2.2.1
      have HB : Hid (Below w.heap.size w wc) := HS.out.2.2.2
      have HRO : Hid (RoAt B wc p R) := roat_below HR.out HB.out
      have hpl := HRO.out.lt
      obtain ⟨ao, cap, hlv, ho, hz, hcap, hrd, _⟩ := own_lace HRO.out.parts.own
      have HRD : Hid (RdK wc ao R.L) := hrd
      have HCT : Hid (∀ W : World, RdK W ao R.L → Calls Tryz.prog 108 #[.slice ao R.L.length cap, .agg #[.int .i64 R.bad, .int .i64 round, .int .i64 frm, .string word]] W fun e w' => e = .returned (.bool (takesB R.L ⟨R.bad, round, frm, word⟩)) ∧ Below W.heap.size W w') := fun W hW => l3CanTieO ao cap R.L ⟨R.bad, round, frm, word⟩ W ho hz hcap HRO.out.parts.lace hwd hW
      clear HS hrd ho hz hcap hwd
      have c0 := HRO.out.c0
      have c3 := HRO.out.c3
      rw [hlv] at c0
      obtain ⟨k0, k1, k2, k3⟩ := HK.out
      simp only [Nat.zero_add] at k0 k1 k2 k3
      by_cases hneg : R.bad < 0
      · have HNEG : Hid (R.bad < 0) := hneg
        go_wp2_with fail
        go_quiet (fail)
        go_wp2
        go_ret
        exact do_same false (HX.out.trans (bad_neg HNEG.out)) HR.out (Lc.below_drewN' HB.out _)
      · have hneg1 : decide (R.bad < 0) = false := decide_eq_false hneg
        have HNN : Hid (0 ≤ R.bad) := Int.not_lt.1 hneg
        clear hneg
        have h60 := ((Lc.lace_iff R.L).1 HRO.out.parts.lace).1
        go_wp2_with fail
        obtain ⟨X, _, F, HF, HG⟩ := Fam.fam wc
        have e0 : ∀ z, (F z).cell? ⟨p, 0, none⟩ = some (.slice ao R.L.length cap) := fun z => ((HF.out z).cell (p := ⟨p, 0, none⟩) hpl).trans c0
        have e3 : ∀ z, (F z).cell? ⟨p, 3, none⟩ = some (.int .i64 R.bad) := fun z => ((HF.out z).cell (p := ⟨p, 3, none⟩) hpl).trans c3
        have m0 : ∀ z, (F z).cell? ⟨kb, 0, none⟩ = some (.int .i64 R.bad) := fun z => ((HF.out z).cell (p := ⟨kb, 0, none⟩) hkl).trans k0
        have m1 : ∀ z, (F z).cell? ⟨kb, 1, none⟩ = some (.int .i64 round) := fun z => ((HF.out z).cell (p := ⟨kb, 1, none⟩) hkl).trans k1
        have m2 : ∀ z, (F z).cell? ⟨kb, 2, none⟩ = some (.int .i64 frm) := fun z => ((HF.out z).cell (p := ⟨kb, 2, none⟩) hkl).trans k2
        have m3 : ∀ z, (F z).cell? ⟨kb, 3, none⟩ = some (.string word) := fun z => ((HF.out z).cell (p := ⟨kb, 3, none⟩) hkl).trans k3
        clear c0 c3 k0 k1 k2 k3
        refine Fam.region (F := F) (by kernel_rfl) (by kernel_rfl) (HG.out _ (Below.refl _ wc).drew) ?_
        repeat (go_big_quiet_step (first
          | (go_at_call 108; exact (HCT.out _ (HRD.out.below (HF.out _))).mono fun _ _ h => ⟨h.1, HG.out _ ((HF.out _).trans (h.2.mono (HF.out _).size))⟩)))
        refine wpQuiet_nil ?_
        intro w2 hw2
        obtain ⟨z, rfl⟩ := hw2
        have HB2 : Hid (Below w.heap.size w (F z)) := HB.out.trans ((HF.out z).mono HB.out.size)
        have HK2 : Hid (CellsK (F z) kb 0 ⟨R.bad, round, frm, word⟩) := HK.out.below (HF.out z) hkl
        have hkl2 : kb < (F z).heap.size := Nat.lt_of_lt_of_le hkl (HF.out z).size
        have c0 := e0 z
        clear e0 e3 m0 m1 m2 m3
        generalize F z = W3 at HB2 HK2 hkl2 c0 ⊢
        have HRO3 : Hid (RoAt B W3 p R) := roat_below HR.out HB2.out
        have f0 := HRO3.out.f0
        have hpl3 := HRO3.out.lt
        have own3 := HRO3.out.parts.own
        have hBs : B ≤ W3.heap.size := Nat.le_trans HRO3.out.pB (Nat.le_of_lt hpl3)
        rw [hlv] at own3
        obtain ⟨k0, k1, k2, k3⟩ := HK2.out
        simp only [Nat.zero_add] at k0 k1 k2 k3
        cases htk : takesB R.L ⟨R.bad, round, frm, word⟩
        · have HXN : Hid (x = ⟨false, R.L, R.hs⟩) := HX.out.trans (bad_not htk)
          clear htk
          go_wp2
          go_ret
          exact do_same false HXN.out HR.out HB2.out
        · have HFIN : Hid (∀ (X V5 : World) (v' : Value), Below W3.heap.size W3 X → V5.ownsRow B 36 4 v' (R.L.length + 1) (flat R.L ++ cellsOf ⟨R.bad, round, frm, word⟩) → X.grownBy V5 R.lv.ownBlock → (v'.ownBlock = R.lv.ownBlock ∨ v'.ownBlock = some X.heap.size) →
              ∃ ao' cap', v' = .slice ao' (R.L.length + 1) cap' ∧ V5.cell? ⟨p, 0, none⟩ = some R.lv ∧ V5.frozen? ⟨p, 0, none⟩ = false ∧ Hid (DoPost B p R x w (.returned (.bool true)) (V5.setCell ⟨p, 0, none⟩ (.slice ao' (R.L.length + 1) cap')))) := fun X V5 v' hX h1 h2 h3 => bad_fin (HX.out.trans (bad_yes HNN.out htk)) HR.out (HB2.out.trans (hX.mono HB2.out.size)) h1 h2 h3 htk
          rw [hlv] at HFIN
          clear htk HK2 HRO3 HRO HRD HCT HF HG
          go_wp2_with fail
          go_region_law (first
            | (refine step_own_at rfl (.tmp 55) (.tmp 57) 24 rfl B 36 i0 (.agg #[.int .i64 0, .int .i64 0, .int .i64 0, .string ⟨#[]⟩]) 4 40 Tryz.underlying24 hi hz0 hz1 hz2 rfl (by decide) (.slice ao R.L.length cap) R.L.length (flat R.L) (by simp [Act.eval]) (own3.alloc _) ⟨W3.heap.size, 0, none⟩ 1 1 (cellsOf ⟨R.bad, round, frm, word⟩) (by simp [Act.eval]) rfl (Lc.new_cells W3 ⟨R.bad, round, frm, word⟩ _) (fun u hu => Lc.flat_one [⟨R.bad, round, frm, word⟩] u (by simpa [flat] using hu)) (by unfold maxLen; omega) (by omega) (by simp; omega) ?_
               intro v2 V5 hown2 hgrow2 hat2
               have HX := HFIN.out _ V5 v2 (by first | exact (Below.refl _ W3).alloc (Nat.le_refl _) _ | exact ((Below.refl _ W3).alloc (Nat.le_refl _) _).drew | exact (Below.refl _ W3).drew.alloc (Nat.le_refl _) _) hown2 hgrow2 hat2
               obtain ⟨ao5, cap5, rfl, p5, q5, HE⟩ := HX
               clear hown2 hgrow2 hat2))
          all_goals
            go_wp2
            go_ret
            exact HE.out

end Rm
end Go.Proofs.YtfjmenhofllchaaGreatDoor
