/-
  From a row's condition on the listed errors to what the walks ask: the variable errNoHand holds an error of errors.New's make; and a row's wrap that hands on the condition and the world's shape.
-/
import Derived.Test.YtapfmadnkaimeaaDoorRows
import Derived.Test.YtapfmadnkaimeaaDoorHaT
import Derived.LaidMore
import Derived.HandedShaped
import Derived.Stop.LaidTwo
import Derived.ProofKit
import Derived.WalkSmall
namespace Go.Proofs.YtapfmadnkaimeaaDoor
open Go.RowKit Go.ChangeShapes Go.WideShapes Go.ChangeAt
set_option maxRecDepth 100000
namespace Ld

theorem star : "*" ++ "errors.errorString" = "*errors.errorString" := by decide
theorem rowE (u : TypeId) (h : Tryd.prog.typeName? 3 u = some "*errors.errorString") : u = 159 :=
  typeName_ptr_named (nm := "errors.errorString") (by rw [star]; kernel_rfl) (by kernel_rfl) (by decide) u (by rw [star]; exact h)
theorem gNoHand : Tryd.prog.globalNamed "loop.example/g00418/impl.errNoHand" = some 0 := by kernel_rfl
theorem tNoHand : (Tryd.prog.globals[0]?).map (·.type) = some 89 := by kernel_rfl
theorem cellsE : Tryd.prog.cellsOf 182 = 1 := by kernel_rfl
theorem cellsS : Tryd.prog.cellsOf 9 = 1 := by kernel_rfl

theorem one {W : World} {text : List UInt8} {r : List (String × DataW Unit)} (h : laidMet Tryd.prog (("loop.example/g00418/impl.errNoHand", .iface "*errors.errorString" (.ptr (.agg [.lit (.string text)]))) :: r) W) :
    ∃ a, W.var? Tryd.prog "loop.example/g00418/impl.errNoHand" = some #[.iface 159 (.pointer (some a))] := by
  obtain ⟨a, s, hv, _⟩ := laid_sentinel h gNoHand tNoHand Tryd.underlying89 rowE Tryd.underlying159 Tryd.underlying182 rfl rfl Tryd.underlying9 cellsE cellsS
  exact ⟨a, hv⟩
theorem noh {W : World} {a : Addr} (h : W.var? Tryd.prog "loop.example/g00418/impl.errNoHand" = some #[.iface 159 (.pointer (some a))]) : Rm.NoH W a := by
  unfold Rm.NoH
  simpa using World.var?_cell gNoHand h 0
theorem var_below {n : String} {g : Nat} {W V : World} {cs : Array Value} (hg : Tryd.prog.globalNamed n = some g) (hb : Below W.heap.size W V) (h : W.var? Tryd.prog n = some cs) : V.var? Tryd.prog n = some cs := by
  refine var?_below hb hg ?_ h
  rcases Nat.lt_or_ge g W.heap.size with q | q
  · exact q
  · unfold World.var? at h
    rw [hg] at h
    simp [Array.getElem?_eq_none q] at h

/-- a row's wrap: a condition on the heap and the world's shape are both handed on -/
theorem wrap {H : Type} {enc : TypeId × Value → H} {a : Assume} {C : Checked} {os : Os} {f : FuncId} {fn : Func} {s : ChangeSpec} {apart fresh handsOn again : Bool} {X : World → Prop}
    (hX : ∀ w w' : World, w.heap = w'.heap → X w → X w') (own : ownKnob C.prog.godebug = none) (started : os.Started) (noInit : C.prog.inits.idxOf? f = none) (hfn : C.prog.funcs[f]? = some fn)
    (witness : ∃ (w : World) (tape : Tape) (i : Input), w.os = os ∧ (w.forCall tape i).Shaped C.prog ∧ i.vars = [] ∧ Input.okWide C.prog (w.forCall tape i) .any w.heap.size f i ∧
      ((s.pre enc C.prog fn [] apart (w.forCall tape i).memory i.args ∧ X (w.forCall tape i).memory) ∧ sizedMet enc C.prog fn (OpenSpec.ofChange s) apart (w.forCall tape i).memory i.args) ∧ a.holds C.prog (lone (Frame.enter C.prog f i.args .normal) [] (w.forCall tape i)))
    (contract : ∀ (W : World) (base : Nat) (args : Array Value) (ds gs : List (DataW H)) (before : List MemPlace),
      (∀ (j : Nat) t v, fn.params[j]? = some t → args[j]? = some v → Value.okWide C.prog W .any base t v) → DataW.Whole enc C.prog fn.params.toList s.vars apart W args.toList ds gs before →
      X W → W.ShapedOpen C.prog → Calls C.prog f args W fun e W' => ∃ v, e = .returned v ∧ s.post enc C.prog fn apart fresh handsOn again W args v W') :
    ReturnsInHanded a C os f .any (fun w args => (s.pre enc C.prog fn [] apart w args ∧ X w) ∧ sizedMet enc C.prog fn (OpenSpec.ofChange s) apart w args) (s.post enc C.prog fn apart fresh handsOn again) := by
  refine returnsInHanded_of_calls own started noInit witness ?_
  intro w tape i _ hsh _ hok hpre _
  obtain ⟨_, _, _, fn', hfn', _, _, _, _, hval⟩ := hok
  obtain rfl : fn' = fn := Option.some.inj (hfn'.symm.trans hfn)
  obtain ⟨⟨⟨ds, gs, before, hw, _⟩, hx⟩, _⟩ := hpre
  refine (contract (w.forCall tape i) w.heap.size i.args ds gs before hval (DataW.Whole.of_heap (w' := w.forCall tape i) (by rfl) hw) (hX _ _ (by rfl) hx) hsh).mono fun e W' ⟨v, he, hp⟩ => ?_
  subst he
  exact ChangeSpec.post_blind hp

end Ld
end Go.Proofs.YtapfmadnkaimeaaDoor
