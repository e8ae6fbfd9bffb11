/-
 FnExactValueOf answers true at every argument, for ValueOf answers as its model does; no condition.
-/
import Derived.Test.YtadbafppodhfpaaezBkG
import Derived.Test.Ytadbafppodhfpaaezg4
set_option linter.unusedVariables false
namespace Go.Proofs.Ytadbafppodhfpaa.fnExactValueOf
open Go.ChangeMaps (open_string shut_string)
open Go.ChangeShapes Go.WideShapes Go.ChangeAt Go.RowKit Go.Joins
open Bk (En RdE)
set_option linter.unusedVariables false
set_option maxRecDepth 100000
theorem own:ownKnob Try.prog.godebug=none:=by kernel_rfl
theorem laidOut:laidOutB Try.prog=true:=by kernel_rfl
theorem words{L:List En}(h:Bk.Small L):∀k∈L,k.key.size≤1073741824:=fun k hk=>by have:=h.2 k hk;omega
set_option maxHeartbeats 1600000 in
theorem walk(a0:Option Addr)(cap0:Nat)(L:List En)(key:ByteArray)(hkl:key.size≤maxLen)(w:World)(hl:L.length≤maxLen)(hws:∀k∈L,k.key.size≤maxLen)(hr:RdE w a0 L) :
  Calls Try.prog 6 #[.slice a0 L.length cap0,.string key] w fun e w'=>e=.returned (.bool true)∧Below w.heap.size w w':=by
 unfold maxLen at hkl;by_cases hbig:1048576<key.size
 ·have hb':(1048576:Int)<(key.size:Int):=by omega
  clear hr hws hl;go_enter Try.func6,Try.ntmps6
  go_wp2;go_ret;exact⟨rfl,Below.refl _ _⟩
 have hb':¬ (1048576:Int)<(key.size:Int):=by omega
 have hk2:key.size≤1073741824:=by omega
 clear hbig hkl;go_enter Try.func6,Try.ntmps6
 go_wp2_with fail
 refine(Bk.szEntryS a0 cap0 L 1048576 _ hl hws (by omega) (by omega) hr).mono ?_;rintro e w1 ⟨r,rfl,hr0,hr1,hsm,hb1⟩;have hr_1:=hr.below hb1;have HSM:Hid (0≤r→Bk.Small L):=hsm;clear hsm;by_cases hneg:r<0
 ·go_wp2;go_ret;exact⟨rfl,hb1⟩
 ·have hS:=HSM.out (by omega);have HW:Hid (∀k∈L,k.key.size≤1073741824):=words hS;have hlen:=hS.1;clear HSM hl hws hS;go_wp2_with fail
  refine(Bk.toEntryS a0 cap0 L _ hlen hr_1).mono ?_;rintro e w2 ⟨rfl,hm2,hb2⟩;have B2:=hb1.trans (hb2.mono hb1.size);have hr_2:=hr_1.below hb2;have hrd2:=Bk.made_rd hm2;clear hb1 hb2 hr_1 hm2;go_wp2_with fail
  refine(Bk.specValueOf _ _ L key _ (by omega) (fun e he=>by have:=HW.out e he;omega) hrd2).mono ?_;rintro e w3 ⟨rfl,hb3⟩;have B3:=B2.trans (hb3.mono B2.size);have hr_3:=hr_2.below hb3;clear B2 hb3 hr_2 hrd2;go_wp2_with fail
  refine(Bk.toEntryS a0 cap0 L _ hlen hr_3).mono ?_;rintro e w4 ⟨rfl,hm4,hb4⟩;have B4:=B3.trans (hb4.mono B3.size);have hr_4:=hr_3.below hb4;have hrd4:=Bk.made_rd hm4;clear B3 hb4 hr_3 hm4;generalize w3.heap.size=q3 at hrd4 ⊢;go_wp2_with fail
  refine((Bk.implValueOf fun _=>True) _ _ L key _ hlen HW.out hk2 trivial hrd4).mono ?_;rintro e w5 ⟨rfl,hb5⟩;have B5:=B4.trans (hb5.mono B4.size);have hr_5:=hr_4.below hb5;have hrd5:=hrd4.below hb5;clear B4 hb5 hr_4 hrd4;go_wp2_with fail
  refine(Bk.toEntryS a0 cap0 L _ hlen hr_5).mono ?_;rintro e w6 ⟨rfl,hm6,hb6⟩;have B6:=B5.trans (hb6.mono B5.size);have hrd6:=hrd5.below hb6;have hrd6':=Bk.made_rd hm6;clear B5 hb6 hrd5 hm6;generalize w5.heap.size=q5 at hrd6' ⊢;go_wp2_with fail
  refine(Bk.eqEntryS _ _ _ _ L _ (by omega) hrd6 hrd6').mono ?_;rintro e w7 ⟨rfl,hb7⟩;have B7:=B6.trans (hb7.mono B6.size);clear B6 hb7 hrd6 hrd6';go_wp2;go_ret;exact⟨rfl,B7⟩
theorem lifted(os:Os)(started:os.Started)(H:Type)(enc:TypeId × Value→H) :
  ReturnsInHanded {} Try.checked os 6 .any (Rows.fnExactValueOfSpec.pre6 enc Try.prog Try.f6 Rows.fnExactValueOfRow.domain false) (Rows.fnExactValueOfSpec.post enc Try.prog Try.f6 false true false false):=by
 refine returnsInHanded_of_change (C:=Try.checked) own started (by kernel_rfl) Try.func6
  (ChangeSpec.witness6 (enc:=enc) (C:=Try.checked) false ⟨#[],#[.slice none 0 0,.string ByteArray.empty],[]⟩ 8 (by kernel_rfl) (by kernel_rfl) (by kernel_rfl) (by kernel_rfl)) ?_
 intro W base args ds gs before hval0 hW hcnd _;have hval:∀(j:Nat) t v,Try.f6.params[j]? = some t→args[j]? = some v→Value.okWide Try.prog W .any base t v:=hval0;have hW':=hW;obtain⟨p,q,hA0,hV,rfl,hfz,hnd⟩:=hW;have hA:DataW.TrodAll enc Try.prog W 0 (fun _=>true) true Try.f6.params.toList args.toList ds p:=hA0;rw [Try.params6] at hA hval;obtain⟨v0,vs0,d0,ds0,p0,q0,hargs,rfl,rfl,h0,r0⟩:=trodAll_cons hA;obtain⟨v1,vs1,d1,ds1,p1,q1,rfl,rfl,rfl,h1,r1⟩:=trodAll_cons r0;obtain⟨rfl,rfl,rfl⟩:=trodAll_nil r1;obtain rfl:args=#[v0,v1]:=by cases args;simp_all
 obtain⟨rfl,rfl⟩:=trodVars_none hV;obtain⟨a0,len0,cap0,rfl⟩:=okWide_slice Try.underlying39 (hval 0 39 v0 rfl rfl);have k0:=h0;have lt0:∀x∈p0,x.block<W.heap.size:=by obtain⟨m,hm⟩:=k0;exact DataW.trod_lt m _ _ _ hm
 obtain⟨fuel,hf⟩:=h0;obtain⟨L,rfl,hrd,hws,hl⟩:=Bk.openE (a0:=a0) (len0:=len0) (cap0:=cap0) hf;obtain⟨x1,rfl,rfl,rfl,w1⟩:=open_string Try.underlying9 (hval 1 9 v1 rfl rfl) h1;clear hA0 hval0;simp only [List.append_nil] at hW';refine(walk a0 cap0 L x1 w1 W hl hws hrd).mono fun e W' ⟨he,bel⟩=>?_
 subst he;exact⟨_,rfl,_,_,_,[],_,[],hW',trodAll_mk1 (shut_bool Try.underlying4 _),(trodAll_cons_mk (Below.trod laidOut (by kernel_rfl) (of_decide_eq_true (by kernel_rfl)) k0 bel lt0) (trodAll_cons_mk (shut_string Try.underlying9 w1) trodAll_mk0)),rfl,bel.frame _,fun h=>by cases h⟩
theorem over:Rows.fnExactValueOfRow.holds Try.pinned (OpenSpec.ofChange Rows.fnExactValueOfSpec):=
 OpenClaim.holds_of_wide 6 Try.f6 rfl rfl rfl rfl rfl rfl rfl ⟨rfl,rfl,rfl,rfl,rfl⟩ rfl rfl rfl rfl rfl (by kernel_rfl) Try.func6 (by kernel_rfl)
  (of_decide_eq_true (by kernel_rfl)) (by unfold Func.isWrapper;first | (rw [if_pos (by decide +kernel)];kernel_rfl) | (rw [if_neg (by decide +kernel)];exact⟨rfl,rfl⟩))
  (fun os started H enc _=>lifted os started H enc)
theorem proved:Rows.FnExactValueOfSaid:=
 over
end Go.Proofs.Ytadbafppodhfpaa.fnExactValueOf
