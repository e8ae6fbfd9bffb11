/-
 FnTies answers true at every code: what is tied is of the round that was told, hangs on all that the hand has of lesser rounds, and is kept; no condition but that the listed errors are laid as their initialisers lay them.
-/
import Derived.OpenShut
import Derived.ChangeOld
import Derived.Stop.Joined
import Derived.SevenTiedAt
import Derived.Test.YtfjmenhofllchaaGreatDoorCards
import Derived.Test.YtfjmenhofllchaaGreatDoorTie
import Derived.Test.YtfjmenhofllchaaGreatDoorQaTiesV
import Derived.Test.YtfjmenhofllchaaGreatDoorQag21
import Derived.Test.YtfjmenhofllchaaGreatDoorQaHaD
set_option linter.unusedVariables false
namespace Go.Proofs.YtfjmenhofllchaaGreatDoor.fnTies
open Go.ChangeShapes Go.WideShapes Go.ChangeAt Go.RowKit
set_option linter.unusedVariables false
set_option maxRecDepth 100000
theorem own : ownKnob Tryz.prog.godebug = none := by kernel_rfl
theorem laidOut : laidOutB Tryz.prog = true := by kernel_rfl
def IsRow (k : IntKind) (w : World) (a : Option Addr) (len cap : Nat) (zs : List Int) : Prop :=
 (a = none ∧ len = 0 ∧ cap = 0 ∧ zs = []) ∨
 ∃ x, a = some x ∧ len ≤ cap ∧ cap ≤ maxLen ∧ zs.length = cap ∧ (∀ i, i < zs.length → w.cell? (x.add i) = some (.int k (zs.getD i 0))) ∧ ∀ n ∈ zs, (Lit.int k n).wf = true
theorem code_of {w : World} {a : Option Addr} {len cap : Nat} {zs : List Int} (h : IsRow .u8 w a len cap zs) : Cur.Code w a len := by
 rcases h with ⟨_, h, _, _⟩ | ⟨x, rfl, hl, _, hz, hcell, hwz⟩
 · exact .inl h
 · by_cases h0 : len = 0
   · exact .inl h0
   · obtain ⟨b, off, spot⟩ := x
     have hc := hcell 0 (by omega)
     have hspot : spot = none := by simpa [Addr.add] using World.cell?_spot hc
     subst hspot
     refine .inr ⟨b, off, rfl, ?_, fun j hj => ?_⟩
     · have := block_lt_of_cell hc; simpa [Addr.add] using this
     · have hcj := hcell j (by omega)
       have hj' : j < zs.length := by omega
       have hw := hwz (zs.getD j 0) (by simp [List.getD, List.getElem?_eq_getElem hj'])
       refine ⟨zs.getD j 0, ?_, ?_⟩
       · by_cases hj0 : j = 0
         · subst hj0; simpa [Addr.add] using hcj
         · simpa [Addr.add, hj0] using hcj
       simpa [Lit.wf, IntKind.min, IntKind.max, IntKind.signed, IntKind.bits] using hw
theorem door_met (os : Os) (args : Array Value) : laidMetH Tryz.prog Rows.fnTiesRow.laid ((World.doorLaid Tryz.prog 400 os).forCall (fun _ _ => 0) ⟨#[], args, []⟩).memory :=
 laidMetH_of_parts3 (fuel := 8) (laidMet_of_run' 8 (by kernel_rfl) (by kernel_rfl)) (by kernel_rfl) (by kernel_rfl)
theorem lifted (os : Os) (started : os.Started) (H : Type) (enc : TypeId × Value → H) :
   ReturnsInHanded {} Tryz.checked os 4 .any (fun w args => (Rows.fnTiesSpec.pre enc Tryz.prog Tryz.f4 [] false w args ∧ laidMetH Tryz.prog Rows.fnTiesRow.laid w) ∧ sizedMet enc Tryz.prog Tryz.f4 (OpenSpec.ofChange Rows.fnTiesSpec) false w args) (Rows.fnTiesSpec.post enc Tryz.prog Tryz.f4 false true false false) := by
 refine Ld.wrap (C := Tryz.checked) (X := fun w => laidMetH Tryz.prog Rows.fnTiesRow.laid w) (fun _ _ hh h => h.of_heap hh) own started (by kernel_rfl) Tryz.func4
   (ChangeSpec.witness_shaped (enc := enc) (C := Tryz.checked) (os := os) (X := fun w _ => laidMetH Tryz.prog Rows.fnTiesRow.laid w) false (World.doorLaid Tryz.prog 400 os) #[.slice none 0 0] 8 rfl (World.shaped_of_RefB (by kernel_rfl) (by kernel_rfl)) (by kernel_rfl) (by kernel_rfl) (by kernel_rfl) (door_met os _)) ?_
 intro W base args ds gs before hval0 hW hL hsh
 have hval : ∀ (j : Nat) t v, Tryz.f4.params[j]? = some t → args[j]? = some v → Value.okWide Tryz.prog W .any base t v := hval0
 have hW' := hW
 obtain ⟨p, q, hA0, hV0, rfl, hfz, hnd⟩ := hW
 have hA : DataW.TrodAll enc Tryz.prog W 0 (fun _ => true) true Tryz.f4.params.toList args.toList ds p := hA0
 have hV : DataW.TrodVars enc Tryz.prog W (fun _ => true) ["loop.example/g00418/impl.errNoHand", "loop.example/g00418/impl.errFull", "loop.example/g00418/impl.errNoWord", "loop.example/g00418/impl.errOnce"] gs q := hV0
 rw [Tryz.params4] at hA hval
 obtain ⟨v0, vs0, d0, ds0, p0, q0, hargs, rfl, rfl, h0, r0⟩ := trodAll_cons hA
 obtain ⟨rfl, rfl, rfl⟩ := trodAll_nil r0
 obtain rfl : args = #[v0] := by cases args; simp_all
 have hLm : laidMet Tryz.prog [("loop.example/g00418/impl.errNoHand", Rows.laid_loop_example_g00418_impl_errNoHand), ("loop.example/g00418/impl.errOnce", Rows.laid_loop_example_g00418_impl_errOnce), ("loop.example/g00418/impl.errNoWord", Rows.laid_loop_example_g00418_impl_errNoWord), ("loop.example/g00418/impl.errFull", Rows.laid_loop_example_g00418_impl_errFull)] W := by rw [← MakeChecks.laidMetH_plain _ _ _ (by kernel_rfl)]; exact hL
 obtain ⟨aerrNoHand, verrNoHand⟩ := Ld.sent hLm Ld.gNoHand Ld.tNoHand
 obtain ⟨aerrOnce, verrOnce⟩ := Ld.sent hLm.tail Ld.gOnce Ld.tOnce
 obtain ⟨aerrNoWord, verrNoWord⟩ := Ld.sent hLm.tail.tail Ld.gNoWord Ld.tNoWord
 obtain ⟨aerrFull, verrFull⟩ := Ld.sent hLm.tail.tail.tail Ld.gFull Ld.tFull
 have hnn : Rm.STie3 W := ⟨⟨⟨⟨_, Ld.noh verrNoHand⟩, Ld.holds Ld.gOnce verrOnce⟩, Ld.holds Ld.gNoWord verrNoWord⟩, Ld.holds Ld.gFull verrFull⟩
 have vr : ∀ {X : World}, X.var? Tryz.prog "loop.example/g00418/impl.errNoHand" = some #[.iface 189 (.pointer (some aerrNoHand))] → X.var? Tryz.prog "loop.example/g00418/impl.errFull" = some #[.iface 189 (.pointer (some aerrFull))] → X.var? Tryz.prog "loop.example/g00418/impl.errNoWord" = some #[.iface 189 (.pointer (some aerrNoWord))] → X.var? Tryz.prog "loop.example/g00418/impl.errOnce" = some #[.iface 189 (.pointer (some aerrOnce))] → ∀ sp : Nat → Bool, DataW.TrodVars enc Tryz.prog X sp ["loop.example/g00418/impl.errNoHand", "loop.example/g00418/impl.errFull", "loop.example/g00418/impl.errNoWord", "loop.example/g00418/impl.errOnce"] [tok enc (.iface 189 (.pointer (some aerrNoHand))), tok enc (.iface 189 (.pointer (some aerrFull))), tok enc (.iface 189 (.pointer (some aerrNoWord))), tok enc (.iface 189 (.pointer (some aerrOnce)))] [.cell 0 0, .cell 5 0, .cell 7 0, .cell 6 0] :=
   fun {X} xerrNoHand xerrFull xerrNoWord xerrOnce sp => Ld.read4 enc Ld.gNoHand Ld.tNoHand Tryz.underlying71 xerrNoHand trivial Ld.gFull Ld.tFull Tryz.underlying71 xerrFull trivial Ld.gNoWord Ld.tNoWord Tryz.underlying71 xerrNoWord trivial Ld.gOnce Ld.tOnce Tryz.underlying71 xerrOnce trivial sp
 obtain ⟨rfl, rfl⟩ := hV.unique (vr verrNoHand verrFull verrNoWord verrOnce _)
 obtain ⟨a0, len0, cap0, rfl⟩ := okWide_slice Tryz.underlying22 (hval 0 22 v0 rfl rfl)
 have k0 := h0
 have lt0 : ∀ x ∈ p0, x.block < W.heap.size := by obtain ⟨m, hm⟩ := k0; exact DataW.trod_lt m _ _ _ hm
 obtain ⟨z0, w0⟩ : ∃ zs, IsRow .u8 W a0 len0 cap0 zs := by
   obtain ⟨fuel, hf⟩ := h0
   rcases open_ints Tryz.underlying22 Tryz.underlying5 (by kernel_rfl) hf with ⟨hcs, _⟩ | ⟨x, l, c, zs, hcs, _, hl, hm, hz, _, hcell, hwz⟩
   · simp [Value.cells] at hcs
     obtain ⟨rfl, rfl, rfl⟩ := hcs
     exact ⟨[], .inl ⟨rfl, rfl, rfl, rfl⟩⟩
   · simp [Value.cells] at hcs
     obtain ⟨rfl, rfl, rfl⟩ := hcs
     exact ⟨zs, .inr ⟨_, rfl, hl, hm, by simpa using hz, hcell, hwz⟩⟩
 clear hA0 hV0 hval0
 refine (Rm.tiesWalk (fun g cap L h wd w hL hc hk hwd => by obtain ⟨⟨⟨⟨a, hn⟩, he⟩, hf⟩, hu⟩ := hL.st; exact (Rm.implTies g 0 cap L h wd a w (by have := hL.len; omega) hL.words hk hwd hL.rd hn he hf hu).mono fun _ _ z => Rm.q_made z) (fun g cap L h w hL hc hk => by obtain ⟨⟨⟨⟨a, hn⟩, he⟩, hf⟩, hu⟩ := hL.st; exact Rm.implNextRound g 0 cap L h a w (by have := hL.len; omega) hL.words hk hL.rd hn he) (fun g cap L h wd w hL hc hk hwd => by obtain ⟨⟨⟨⟨a, hn⟩, he⟩, hf⟩, hu⟩ := hL.st; exact Rm.implDraft g 0 cap L h wd a w (by have := hL.len; omega) hL.words hk hwd hL.rd hn he hf) (fun g cap L h w hL hc hk => by obtain ⟨a, hn⟩ := hL.no; exact Rm.implHandOk g 0 cap L h a w (by have := hL.ls.len; omega) hL.words hk hL.rd hn) Rm.drawsRoom Rm.drawsRoomC a0 len0 cap0 W (code_of w0) hnn).mono fun e W' ⟨he, bel⟩ => ?_
 subst he
 exact ⟨_, rfl, _, _, _, [], _, [.cell 0 0, .cell 5 0, .cell 7 0, .cell 6 0], hW', trodAll_mk1 (shut_bool Tryz.underlying4 _), (trodAll_cons_mk (Below.trod laidOut (by kernel_rfl) (of_decide_eq_true (by kernel_rfl)) k0 bel lt0) trodAll_mk0), vr (Ld.var_below Ld.gNoHand bel verrNoHand) (Ld.var_below Ld.gFull bel verrFull) (Ld.var_below Ld.gNoWord bel verrNoWord) (Ld.var_below Ld.gOnce bel verrOnce) _, bel.frame _, fun h => by cases h⟩
theorem over : Rows.fnTiesRow.holds Tryz.pinned (OpenSpec.ofChange Rows.fnTiesSpec) :=
 OpenClaim.holds_of_wide 4 Tryz.f4 rfl rfl rfl rfl rfl rfl rfl ⟨rfl, rfl, rfl, rfl, rfl⟩ rfl rfl rfl rfl rfl (by kernel_rfl) Tryz.func4 (by kernel_rfl)
   (of_decide_eq_true (by kernel_rfl)) (by unfold Func.isWrapper; first | (rw [if_pos (by decide +kernel)]; kernel_rfl) | (rw [if_neg (by decide +kernel)]; exact ⟨rfl, rfl⟩))
   (fun os started H enc _ => lifted os started H enc)
theorem proved : Rows.FnTiesCardSaid :=
 Claim7.holds_tied_plain_at .later [] [.sentinel, .sentinel, .sentinel, .sentinel] true (true, "7cf24c4e7b817c2e8046c94fa8618beadb49cdb2469f18f92eb9246087272fce") true
   over (fun _ h => by cases h) (by kernel_rfl) (fun _ h => by cases h) fnTies_row_tie rfl ⟨rfl, rfl⟩ (by kernel_rfl) rfl
   (fun f fn hf hfn => by
     obtain rfl : f = 4 := Option.some.inj ((show Tryz.prog.funcNamed "loop.example/g00418/laws.FnTies" = some 4 by kernel_rfl).symm.trans hf) |>.symm
     obtain rfl : fn = Tryz.f4 := (Option.some.inj (Tryz.func4.symm.trans hfn)).symm
     exact ⟨by kernel_rfl, fun j t ht => by
       rw [Tryz.params4] at ht
       have hm : t ∈ [22] := by simpa using Array.mem_of_getElem? ht
       have hall : ([22].all fun u => !Tryz.prog.wantsStandIn u) = true := by kernel_rfl
       exact (show Tryz.prog.wantsStandIn t = false by simpa using List.all_eq_true.1 hall t hm)⟩)
   (by kernel_rfl)
end Go.Proofs.YtfjmenhofllchaaGreatDoor.fnTies
