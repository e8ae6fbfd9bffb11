/-
 From a row's condition on the errors that are listed for tying to what the walks ask.
-/
import Derived.Test.YtfjmenhofllchaaGreatDoorQaRoomV
import Derived.Test.YtfjmenhofllchaaGreatDoorRows
import Derived.LaidMore
import Derived.HandedShaped
import Derived.Stop.LaidTwo
import Derived.ProofKit
import Derived.Test.YtfjmenhofllchaaGreatDoorQag14
set_option linter.unusedVariables false
namespace Go.Proofs.YtfjmenhofllchaaGreatDoor
open Go.RowKit
namespace Rm
theorem drawsBad : DrawsBad := fun c a len cap ao cp L co nc cc go nh hc bad w hl hca hlc hr hn => l18DrawBad c a len cap ao cp L co nc cc go nh hc bad w hl hca hlc hr hn
theorem drawsRoom : DrawsRoom := fun c a len cap w hl hc => l18Draw' (l18DrawActs' drawsBad (l18DrawAct' drawsBad)) c a len cap w hl hc
end Rm
namespace Rm
theorem drawsRoomC : DrawsRoomC := fun c a len cap w hl hc => l18DrawC (l18DrawActs' drawsBad (l18DrawAct' drawsBad)) c a len cap w hl hc
end Rm
end Go.Proofs.YtfjmenhofllchaaGreatDoor
namespace Go.Proofs.YtfjmenhofllchaaGreatDoor
open Go.RowKit Go.ChangeShapes Go.WideShapes Go.ChangeAt
set_option maxRecDepth 100000
namespace Ld
theorem star : "*" ++ "errors.errorString" = "*errors.errorString" := by decide
theorem rowE (u : TypeId) (h : Tryz.prog.typeName? 3 u = some "*errors.errorString") : u = 189 :=
 typeName_ptr_named (nm := "errors.errorString") (by rw [star]; kernel_rfl) (by kernel_rfl) (by decide) u (by rw [star]; exact h)
theorem gNoHand : Tryz.prog.globalNamed "loop.example/g00418/impl.errNoHand" = some 0 := by kernel_rfl
theorem tNoHand : (Tryz.prog.globals[0]?).map (·.type) = some 71 := by kernel_rfl
theorem cellsE : Tryz.prog.cellsOf 212 = 1 := by kernel_rfl
theorem cellsS : Tryz.prog.cellsOf 9 = 1 := by kernel_rfl
theorem one {W : World} {text : List UInt8} {r : List (String × DataW Unit)} (h : laidMet Tryz.prog (("loop.example/g00418/impl.errNoHand", .iface "*errors.errorString" (.ptr (.agg [.lit (.string text)]))) :: r) W) :
   ∃ a, W.var? Tryz.prog "loop.example/g00418/impl.errNoHand" = some #[.iface 189 (.pointer (some a))] := by
 obtain ⟨a, s, hv, _⟩ := laid_sentinel h gNoHand tNoHand Tryz.underlying71 rowE Tryz.underlying189 Tryz.underlying212 rfl rfl Tryz.underlying9 cellsE cellsS
 exact ⟨a, hv⟩
theorem noh {W : World} {a : Addr} (h : W.var? Tryz.prog "loop.example/g00418/impl.errNoHand" = some #[.iface 189 (.pointer (some a))]) : Rm.NoH W a := by
 unfold Rm.NoH
 simpa using World.var?_cell gNoHand h 0
theorem var_below {n : String} {g : Nat} {W V : World} {cs : Array Value} (hg : Tryz.prog.globalNamed n = some g) (hb : Below W.heap.size W V) (h : W.var? Tryz.prog n = some cs) : V.var? Tryz.prog n = some cs := by
 refine var?_below hb hg ?_ h
 rcases Nat.lt_or_ge g W.heap.size with q | q
 · exact q
 · unfold World.var? at h
   rw [hg] at h
   simp [Array.getElem?_eq_none q] at h
theorem wrap {H : Type} {enc : TypeId × Value → H} {a : Assume} {C : Checked} {os : Os} {f : FuncId} {fn : Func} {s : ChangeSpec} {apart fresh handsOn again : Bool} {X : World → Prop}
   (hX : ∀ w w' : World, w.heap = w'.heap → X w → X w') (own : ownKnob C.prog.godebug = none) (started : os.Started) (noInit : C.prog.inits.idxOf? f = none) (hfn : C.prog.funcs[f]? = some fn)
   (witness : ∃ (w : World) (tape : Tape) (i : Input), w.os = os ∧ (w.forCall tape i).Shaped C.prog ∧ i.vars = [] ∧ Input.okWide C.prog (w.forCall tape i) .any w.heap.size f i ∧
     ((s.pre enc C.prog fn [] apart (w.forCall tape i).memory i.args ∧ X (w.forCall tape i).memory) ∧ sizedMet enc C.prog fn (OpenSpec.ofChange s) apart (w.forCall tape i).memory i.args) ∧ a.holds C.prog (lone (Frame.enter C.prog f i.args .normal) [] (w.forCall tape i)))
   (contract : ∀ (W : World) (base : Nat) (args : Array Value) (ds gs : List (DataW H)) (before : List MemPlace),
     (∀ (j : Nat) t v, fn.params[j]? = some t → args[j]? = some v → Value.okWide C.prog W .any base t v) → DataW.Whole enc C.prog fn.params.toList s.vars apart W args.toList ds gs before →
     X W → W.ShapedOpen C.prog → Calls C.prog f args W fun e W' => ∃ v, e = .returned v ∧ s.post enc C.prog fn apart fresh handsOn again W args v W') :
   ReturnsInHanded a C os f .any (fun w args => (s.pre enc C.prog fn [] apart w args ∧ X w) ∧ sizedMet enc C.prog fn (OpenSpec.ofChange s) apart w args) (s.post enc C.prog fn apart fresh handsOn again) := by
 refine returnsInHanded_of_calls own started noInit witness ?_
 intro w tape i _ hsh _ hok hpre _
 obtain ⟨_, _, _, fn', hfn', _, _, _, _, hval⟩ := hok
 obtain rfl : fn' = fn := Option.some.inj (hfn'.symm.trans hfn)
 obtain ⟨⟨⟨ds, gs, before, hw, _⟩, hx⟩, _⟩ := hpre
 refine (contract (w.forCall tape i) w.heap.size i.args ds gs before hval (DataW.Whole.of_heap (w' := w.forCall tape i) (by rfl) hw) (hX _ _ (by rfl) hx) hsh).mono fun e W' ⟨v, he, hp⟩ => ?_
 subst he
 exact ChangeSpec.post_blind hp
end Ld
end Go.Proofs.YtfjmenhofllchaaGreatDoor
namespace Go.Proofs.YtfjmenhofllchaaGreatDoor
open Go.RowKit Go.ChangeShapes Go.WideShapes Go.ChangeAt
set_option maxRecDepth 100000
namespace Ld
theorem gOnce : Tryz.prog.globalNamed "loop.example/g00418/impl.errOnce" = some 6 := by kernel_rfl
theorem tOnce : (Tryz.prog.globals[6]?).map (·.type) = some 71 := by kernel_rfl
theorem gNoWord : Tryz.prog.globalNamed "loop.example/g00418/impl.errNoWord" = some 7 := by kernel_rfl
theorem tNoWord : (Tryz.prog.globals[7]?).map (·.type) = some 71 := by kernel_rfl
theorem gFull : Tryz.prog.globalNamed "loop.example/g00418/impl.errFull" = some 5 := by kernel_rfl
theorem tFull : (Tryz.prog.globals[5]?).map (·.type) = some 71 := by kernel_rfl
theorem sent {W : World} {n : String} {g : Nat} {text : List UInt8} {r : List (String × DataW Unit)} (h : laidMet Tryz.prog ((n, .iface "*errors.errorString" (.ptr (.agg [.lit (.string text)]))) :: r) W) (hg : Tryz.prog.globalNamed n = some g) (ht : (Tryz.prog.globals[g]?).map (·.type) = some 71) :
   ∃ a, W.var? Tryz.prog n = some #[.iface 189 (.pointer (some a))] := by
 obtain ⟨a, s, hv, _⟩ := laid_sentinel h hg ht Tryz.underlying71 rowE Tryz.underlying189 Tryz.underlying212 rfl rfl Tryz.underlying9 cellsE cellsS
 exact ⟨a, hv⟩
theorem holds {W : World} {n : String} {g : Nat} {a : Addr} (hg : Tryz.prog.globalNamed n = some g) (h : W.var? Tryz.prog n = some #[.iface 189 (.pointer (some a))]) : Rm.HoldsE W g :=
 ⟨_, by simpa using World.var?_cell hg h 0⟩
theorem read4 {H : Type} (enc : TypeId × Value → H) {P : Program} {W : World} {n0 n1 n2 n3 : String} {g0 g1 g2 g3 : Nat} {t0 t1 t2 t3 : TypeId} {ms0 ms1 ms2 ms3 : Array (String × TypeId)} {x0 x1 x2 x3 : Value}
   (hg0 : P.globalNamed n0 = some g0) (ht0 : (P.globals[g0]?).map (·.type) = some t0) (hi0 : P.underlying t0 = some (.interface ms0)) (h0 : W.var? P n0 = some #[x0]) (i0 : IsIface x0)
   (hg1 : P.globalNamed n1 = some g1) (ht1 : (P.globals[g1]?).map (·.type) = some t1) (hi1 : P.underlying t1 = some (.interface ms1)) (h1 : W.var? P n1 = some #[x1]) (i1 : IsIface x1)
   (hg2 : P.globalNamed n2 = some g2) (ht2 : (P.globals[g2]?).map (·.type) = some t2) (hi2 : P.underlying t2 = some (.interface ms2)) (h2 : W.var? P n2 = some #[x2]) (i2 : IsIface x2)
   (hg3 : P.globalNamed n3 = some g3) (ht3 : (P.globals[g3]?).map (·.type) = some t3) (hi3 : P.underlying t3 = some (.interface ms3)) (h3 : W.var? P n3 = some #[x3]) (i3 : IsIface x3) (sp : Nat → Bool) :
   DataW.TrodVars enc P W sp [n0, n1, n2, n3] [tok enc x0, tok enc x1, tok enc x2, tok enc x3] [.cell g0 0, .cell g1 0, .cell g2 0, .cell g3 0] :=
 ⟨g0, t0, #[x0], 1, [], _, hg0, ht0, h0, trod_held hi0 i0 0, ⟨g1, t1, #[x1], 1, [], _, hg1, ht1, h1, trod_held hi1 i1 0, ⟨g2, t2, #[x2], 1, [], _, hg2, ht2, h2, trod_held hi2 i2 0, ⟨g3, t3, #[x3], 1, [], [], hg3, ht3, h3, trod_held hi3 i3 0, rfl, rfl⟩, rfl⟩, rfl⟩, rfl⟩
end Ld
end Go.Proofs.YtfjmenhofllchaaGreatDoor
