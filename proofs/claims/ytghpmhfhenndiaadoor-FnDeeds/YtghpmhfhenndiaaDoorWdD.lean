/-
  From a row's condition on the listed package variables, and from the world's shape, to what the walks of chapter 16 ask: the powers of ten, the kinds' names, the library's errors; how the named variable reads; and a row's wrap that hands both on.
-/
import Derived.Test.YtghpmhfhenndiaaDoorRows
import Derived.Test.YtghpmhfhenndiaaDoorWdL
import Derived.Lib.LaidU8
import Derived.LaidMore
import Derived.HandedShaped
import Derived.ProofKit
namespace Go.Proofs.YtghpmhfhenndiaaDoor
open Go.RowKit Go.ChangeShapes Go.WideShapes Go.ChangeAt
set_option maxRecDepth 100000
namespace De

theorem tab_of_reads {W : World} {name : String} {k : IntKind} {zs : List Int} {g : Nat} {t e : TypeId} {n : Nat} {d : DataW Unit}
    (hg : Tryd.prog.globalNamed name = some g) (hty : (Tryd.prog.globals[g]?).map (·.type) = some t) (ht : Tryd.prog.underlying t = some (.array n e)) (he : Tryd.prog.underlying e = some (.int k)) (hce : Tryd.prog.cellsOf e = 1) (hct : Tryd.prog.cellsOf t = n)
    (hd : d = Lib.tabData k zs) (h : Lib.VarReads Tryd.prog W name d) : Lib.TabIs Tryd.prog W name k zs := by
  subst hd
  obtain ⟨g', t', cs, fuel, p, hg', ht', hvar, hd⟩ := h
  obtain rfl := Option.some.inj (hg.symm.trans hg')
  obtain rfl := Option.some.inj (hty.symm.trans ht')
  unfold Lib.TabIs
  rw [hvar, ← Lib.cells_of_tab ht he hce hct hd]

theorem iface_of_reads {W : World} {name nm : String} {d : DataW Unit} {g : Nat} {t : TypeId} {ms : Array (String × TypeId)}
    (hg : Tryd.prog.globalNamed name = some g) (hty : (Tryd.prog.globals[g]?).map (·.type) = some t) (ht : Tryd.prog.underlying t = some (.interface ms))
    (h : Lib.VarReads Tryd.prog W name (.iface nm d)) : ∃ tp p, W.cell? ⟨g, 0, none⟩ = some (.iface tp p) := by
  obtain ⟨g', t', cs, fuel, p, hg', ht', hvar, hd⟩ := h
  obtain rfl := Option.some.inj (hg.symm.trans hg')
  obtain rfl := Option.some.inj (hty.symm.trans ht')
  obtain ⟨_, u, v, hcs, _⟩ := iface_of_trod ht hd
  refine ⟨u, v, ?_⟩
  have h0 := World.var?_cell hg hvar 0
  rw [h0, ← Array.getElem?_toList, hcs]; rfl

/-- an array of texts that reads as texts holds them, cell for cell -/
theorem cells_of_txt {H : Type} {enc : TypeId × Value → H} {P : Program} {w : World} {base : Nat} {sp : Nat → Bool} {held : Bool} {fuel : Nat} {t e : TypeId} {n : Nat} {cs : List Value} {zs : List (List UInt8)} {p : List MemPlace}
    (ht : P.underlying t = some (.array n e)) (he : P.underlying e = some .string) (hce : P.cellsOf e = 1) (hct : P.cellsOf t = n)
    (h : DataW.trod enc P w base sp held fuel t cs = some (.agg (zs.map fun z => .lit (.string z)), p)) : cs = zs.map fun z => Value.string ⟨z.toArray⟩ := by
  cases fuel with
  | zero => simp [DataW.trod] at h
  | succ fuel =>
    simp only [DataW.trod, ht, hce, hct, Nat.mul_one] at h
    split at h
    · rename_i hl
      obtain ⟨xs, hm, hx⟩ := Option.map_eq_some_iff.1 h
      have hxs : xs.map (·.1) = zs.map fun z => (DataW.lit (.string z) : DataW H) := by
        have := congrArg Prod.fst hx
        simpa using this
      have hxl : xs.length = n := by simpa using Lib.mapM_length hm
      have hzl : zs.length = n := by
        have := congrArg List.length hxs
        simp at this
        omega
      apply List.ext_getElem?
      intro i
      by_cases hi : i < n
      · obtain ⟨b, hb, hf⟩ := Lib.mapM_at hm i i (by simp [hi])
        obtain ⟨s, hc, rfl, _⟩ := DataW.trod_string he hf
        have h1 : cs[i]? = some (.string s) := by
          have := congrArg (·[0]?) hc
          simpa [List.getElem?_take, List.getElem?_drop] using this
        have h2 : (xs.map (·.1))[i]? = some (DataW.lit (.string s.data.toList) : DataW H) := by simp [hb]
        rw [hxs] at h2
        simp only [List.getElem?_map, Option.map_eq_some_iff, DataW.lit.injEq, Lit.string.injEq] at h2
        obtain ⟨z', hz', rfl⟩ := h2
        simp [h1, hz']
      · rw [List.getElem?_eq_none (by omega), List.getElem?_eq_none (by simp; omega)]
    · cases h

theorem tKind : (Tryd.prog.globals[0]?).map (·.type) = some 39 := by kernel_rfl
theorem kind_of_reads {W : World} (h : Lib.VarReads Tryd.prog W "loop.example/g00418/impl.kindNames" Rows.laid_loop_example_g00418_impl_kindNames) : W.var? Tryd.prog "loop.example/g00418/impl.kindNames" = some kindV := by
  obtain ⟨g', t', cs, fuel, p, hg', ht', hvar, hd⟩ := h
  obtain rfl := Option.some.inj (gKind.symm.trans hg')
  obtain rfl := Option.some.inj (tKind.symm.trans ht')
  have e := cells_of_txt (zs := [[], [112, 117, 116], [99, 117, 116], [97, 100, 100], [105, 102]]) Tryd.underlying39 Tryd.underlying9 (by kernel_rfl) (by kernel_rfl) hd
  rw [hvar]
  exact congrArg some (Array.toList_inj.1 e)
/-- where the named variable lies -/
def kindP : List MemPlace := MemPlace.row ⟨0, 0, none⟩ kindV.size ++ [] ++ []
/-- how it reads -/
theorem kind_read {H : Type} (enc : TypeId × Value → H) {X : World} (h : X.var? Tryd.prog "loop.example/g00418/impl.kindNames" = some kindV) (sp : Nat → Bool) : DataW.TrodVars enc Tryd.prog X sp ["loop.example/g00418/impl.kindNames"] [Rows.laid_loop_example_g00418_impl_kindNames] kindP :=
  ⟨_, _, kindV, 2, [], [], gKind, tKind, h, by
    have c1 : Tryd.prog.cellsOf 9 = 1 := by kernel_rfl
    have c5 : Tryd.prog.cellsOf 39 = 5 := by kernel_rfl
    have key : ∀ m : Nat, (∀ s : ByteArray, s.size ≤ maxLen → DataW.trod enc Tryd.prog X 0 sp true m 9 [.string s] = some (.lit (.string s.data.toList), [])) →
        DataW.trod enc Tryd.prog X 0 sp true (m + 1) 39 kindV.toList = some (Rows.laid_loop_example_g00418_impl_kindNames, []) := fun m hs => by
      simp only [DataW.trod, Tryd.underlying39, c1, c5, kindV, Rows.laid_loop_example_g00418_impl_kindNames]
      rw [if_pos (by rfl)]
      rw [show List.range 5 = [0, 1, 2, 3, 4] from rfl]
      simp only [List.mapM_cons, List.mapM_nil, Nat.mul_one, List.drop_succ_cons, List.drop_zero, List.take_succ_cons, List.take_zero]
      rw [hs _ (by decide), hs _ (by decide), hs _ (by decide), hs _ (by decide), hs _ (by decide)]
      rfl
    exact key 1 (fun s h => by simp [DataW.trod, Tryd.underlying9, h]), rfl, rfl⟩

theorem tabP_of {W : World} {l : List (String × DataW Unit)} (h : laidMet Tryd.prog l W) (m1 : ("internal/strconv.uint64pow10", (Rows.laid_internal_strconv_uint64pow10 : DataW Unit)) ∈ l) (m2 : ("loop.example/g00418/impl.kindNames", (Rows.laid_loop_example_g00418_impl_kindNames : DataW Unit)) ∈ l) : TabP W where
  pow := tab_of_reads gPow (by kernel_rfl) Tryd.underlying82 Tryd.underlying71 (by kernel_rfl) (by kernel_rfl) (by kernel_rfl) (Lib.laidMet.reads h m1)
  knd := kind_of_reads (Lib.laidMet.reads h m2)
theorem tabQ_of {W : World} {l : List (String × DataW Unit)} (h : laidMet Tryd.prog l W) (hsh : W.ShapedOpen Tryd.prog) (m1 : ("internal/strconv.uint64pow10", (Rows.laid_internal_strconv_uint64pow10 : DataW Unit)) ∈ l) (m2 : ("loop.example/g00418/impl.kindNames", (Rows.laid_loop_example_g00418_impl_kindNames : DataW Unit)) ∈ l)
    (m3 : ("strconv.ErrSyntax", (Rows.laid_strconv_ErrSyntax : DataW Unit)) ∈ l) (m4 : ("strconv.ErrRange", (Rows.laid_strconv_ErrRange : DataW Unit)) ∈ l) : TabQ W where
  p := tabP_of h m1 m2
  syn := iface_of_reads (by kernel_rfl) (by kernel_rfl) Tryd.underlying66 (Lib.laidMet.reads h m3)
  rng := iface_of_reads (by kernel_rfl) (by kernel_rfl) Tryd.underlying66 (Lib.laidMet.reads h m4)
  maxl := Tryd.laysM146.s1_3 W hsh

/-- a row's wrap: a condition on the heap and the world's shape are both handed on -/
theorem wrap {H : Type} {enc : TypeId × Value → H} {a : Assume} {C : Checked} {os : Os} {f : FuncId} {fn : Func} {s : ChangeSpec} {apart fresh handsOn again : Bool} {X : World → Prop}
    (hX : ∀ w w' : World, w.heap = w'.heap → X w → X w') (own : ownKnob C.prog.godebug = none) (started : os.Started) (noInit : C.prog.inits.idxOf? f = none) (hfn : C.prog.funcs[f]? = some fn)
    (witness : ∃ (w : World) (tape : Tape) (i : Input), w.os = os ∧ (w.forCall tape i).Shaped C.prog ∧ i.vars = [] ∧ Input.okWide C.prog (w.forCall tape i) .any w.heap.size f i ∧
      ((s.pre enc C.prog fn [] apart (w.forCall tape i).memory i.args ∧ X (w.forCall tape i).memory) ∧ sizedMet enc C.prog fn (OpenSpec.ofChange s) apart (w.forCall tape i).memory i.args) ∧ a.holds C.prog (lone (Frame.enter C.prog f i.args .normal) [] (w.forCall tape i)))
    (contract : ∀ (W : World) (base : Nat) (args : Array Value) (ds gs : List (DataW H)) (before : List MemPlace),
      (∀ (j : Nat) t v, fn.params[j]? = some t → args[j]? = some v → Value.okWide C.prog W .any base t v) → DataW.Whole enc C.prog fn.params.toList s.vars apart W args.toList ds gs before →
      X W → W.ShapedOpen C.prog → Calls C.prog f args W fun e W' => ∃ v, e = .returned v ∧ s.post enc C.prog fn apart fresh handsOn again W args v W') :
    ReturnsInHanded a C os f .any (fun w args => (s.pre enc C.prog fn [] apart w args ∧ X w) ∧ sizedMet enc C.prog fn (OpenSpec.ofChange s) apart w args) (s.post enc C.prog fn apart fresh handsOn again) := by
  refine returnsInHanded_of_calls own started noInit witness ?_
  intro w tape i _ hsh _ hok hpre _
  obtain ⟨_, _, _, fn', hfn', _, _, _, _, hval⟩ := hok
  obtain rfl : fn' = fn := Option.some.inj (hfn'.symm.trans hfn)
  obtain ⟨⟨⟨ds, gs, before, hw, _⟩, hx⟩, _⟩ := hpre
  refine (contract (w.forCall tape i) w.heap.size i.args ds gs before hval (DataW.Whole.of_heap (w' := w.forCall tape i) (by rfl) hw) (hX _ _ (by rfl) hx) hsh).mono fun e W' ⟨v, he, hp⟩ => ?_
  subst he
  exact ChangeSpec.post_blind hp

end De
end Go.Proofs.YtghpmhfhenndiaaDoor
