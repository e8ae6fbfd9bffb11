/-
 The leaders that wait: the library's heap over them, and the next one.
-/
import Derived.Test.YtbkeldfbllhlbaaGreatqzHeapM
import Derived.RegionTactic
import Derived.ChangeAlike
import Derived.Lib.SmallJoins
import Derived.Laws.AppendOwnNone
import Derived.OneCell
import Derived.Test.YtbkeldfbllhlbaaGreatqzg1
set_option linter.unusedVariables false
set_option maxRecDepth 100000
set_option maxHeartbeats 1600000
namespace Go.Proofs.YtbkeldfbllhlbaaGreat
open Go.RowKit
section
namespace Hp
theorem wrap_ok(ts:Array TypeId)(t:TypeId)(a:Addr)(x y:String):Builtin.ssaWrapNilChk_ ts t #[.pointer (some a),strVal x,strVal y]=pure (.pointer (some a)):=rfl
theorem findLess:(Array.find? (fun x:Method=>x.name == "Less") Tryz.t145.methods).map (fun x=>(x.func,x.path.toList))=some (some (234,false),[]):=by kernel_rfl
theorem mLess{hp:Nat}{W:World}{v:Value}(h:W.cell? ⟨hp,0,none⟩=some v)(f:Nat):Sem.run Tryz.prog (method (f+1) 145 (.pointer (some ⟨hp,0,none⟩)) "Less") W=.ok (234,v) W:=by
 have e:=findLess
 cases hx:Array.find? (fun x:Method=>x.name == "Less") Tryz.t145.methods with
 | none=>rw [hx] at e;cases e
 | some x=>
  obtain⟨a,b,c,d⟩:=x;rw [hx] at e;simp at e;obtain⟨rfl,rfl⟩:=e;unfold method;simp [go_sem,h,hx,follow,receiverAt,Place.get,wrap_ok]
theorem findSwap:(Array.find? (fun x:Method=>x.name == "Swap") Tryz.t145.methods).map (fun x=>(x.func,x.path.toList))=some (some (237,false),[]):=by kernel_rfl
theorem mSwap{hp:Nat}{W:World}{v:Value}(h:W.cell? ⟨hp,0,none⟩=some v)(f:Nat):Sem.run Tryz.prog (method (f+1) 145 (.pointer (some ⟨hp,0,none⟩)) "Swap") W=.ok (237,v) W:=by
 have e:=findSwap
 cases hx:Array.find? (fun x:Method=>x.name == "Swap") Tryz.t145.methods with
 | none=>rw [hx] at e;cases e
 | some x=>
  obtain⟨a,b,c,d⟩:=x;rw [hx] at e;simp at e;obtain⟨rfl,rfl⟩:=e;unfold method;simp [go_sem,h,hx,follow,receiverAt,Place.get,wrap_ok]
theorem findLen:(Array.find? (fun x:Method=>x.name == "Len") Tryz.t145.methods).map (fun x=>(x.func,x.path.toList))=some (some (118,false),[]):=by kernel_rfl
theorem mLen{hp:Nat}{W:World}{v:Value}(h:W.cell? ⟨hp,0,none⟩=some v)(f:Nat):Sem.run Tryz.prog (method (f+1) 145 (.pointer (some ⟨hp,0,none⟩)) "Len") W=.ok (118,v) W:=by
 have e:=findLen
 cases hx:Array.find? (fun x:Method=>x.name == "Len") Tryz.t145.methods with
 | none=>rw [hx] at e;cases e
 | some x=>
  obtain⟨a,b,c,d⟩:=x;rw [hx] at e;simp at e;obtain⟨rfl,rfl⟩:=e;unfold method;simp [go_sem,h,hx,follow,receiverAt,Place.get,wrap_ok]
end Hp
end
section
namespace Hp
theorem up_enough{α:Type}(lt:α→α→Bool):∀(f g:Nat) (D:Nat→α) (j:Nat),j≤f→j≤g→up lt (f+1) D j=up lt (g+1) D j:=by
 intro f;induction f with
 | zero=>
  intro g D j h _;obtain rfl:j=0:=by omega
  rfl
 | succ f ih=>
  intro g D j h hg;by_cases h1:(j-1) / 2=j
  ·unfold up;rw [if_pos h1,if_pos h1]
  ·cases g with
   | zero=>omega
   | succ g=>
    unfold up;rw [if_neg h1,if_neg h1,ih g _ _ (by omega) (by omega)]
def upT{α:Type}(lt:α→α→Bool)(D:Nat→α)(j:Nat):Nat→α:=up lt (j+1) D j
theorem upT_top{α:Type}(lt:α→α→Bool)(D:Nat→α)(j:Nat)(h:(j-1) / 2=j):upT lt D j=D:=by unfold upT up;rw [if_pos h]
theorem upT_stay{α:Type}(lt:α→α→Bool)(D:Nat→α)(j:Nat)(h:lt (D j) (D ((j-1) / 2))=false):upT lt D j=D:=by unfold upT up;rw [h];simp
theorem upT_go{α:Type}(lt:α→α→Bool)(D:Nat→α)(j:Nat)(h:(j-1) / 2≠j)(h2:lt (D j) (D ((j-1) / 2))=true):upT lt D j=upT lt (swap D ((j-1) / 2) j) ((j-1) / 2):=by
 unfold upT
 cases j with
 | zero=>exact absurd rfl h
 | succ j=>
  rw [up,if_neg h,if_pos h2];exact up_enough lt j _ _ _ (by omega) (Nat.le_refl _)
theorem down_enough{α:Type}(lt:α→α→Bool)(n:Nat):∀(f g:Nat) (D:Nat→α) (i:Nat),n≤f+i→n≤g+i→down lt n (f+1) D i=down lt n (g+1) D i:=by
 intro f;induction f with
 | zero=>
  intro g D i h _;unfold down;rw [if_neg (by omega),if_neg (by omega)]
 | succ f ih=>
  intro g D i h hg;by_cases h1:2*i+1<n
  ·obtain⟨_,_,ki⟩:=kid_bd lt n D i h1
   cases g with
   | zero=>omega
   | succ g=>
    unfold down;rw [if_pos h1,if_pos h1,ih g _ _ (by omega) (by omega)]
  ·unfold down;rw [if_neg h1,if_neg h1]
def downT{α:Type}(lt:α→α→Bool)(n:Nat)(D:Nat→α)(i:Nat):Nat→α:=down lt n (n+1) D i
theorem downT_end{α:Type}(lt:α→α→Bool)(n:Nat)(D:Nat→α)(i:Nat)(h:¬ 2*i+1<n):downT lt n D i=D:=by unfold downT down;rw [if_neg h]
theorem downT_stay{α:Type}(lt:α→α→Bool)(n:Nat)(D:Nat→α)(i:Nat)(h2:lt (D (kid lt n D i)) (D i)=false):downT lt n D i=D:=by unfold downT down;rw [h2];simp
theorem downT_go{α:Type}(lt:α→α→Bool)(n:Nat)(D:Nat→α)(i:Nat)(h:2*i+1<n)(h2:lt (D (kid lt n D i)) (D i)=true):downT lt n D i=downT lt n (swap D i (kid lt n D i)) (kid lt n D i):=by
 obtain⟨_,_,ki⟩:=kid_bd lt n D i h;unfold downT
 cases n with
 | zero=>omega
 | succ n=>
  rw [down,if_pos h,if_pos h2];exact down_enough lt (n+1) n (n+1) _ _ (by omega) (by omega)
structure Keeps{α:Type}(lt:α→α→Bool)(hp n:Nat)(S:World→(Nat→α)→Prop):Prop where
 less:∀(W:World) (D:Nat→α) (i j:Nat),S W D→i<n→j<n→∃v:Value,W.cell? ⟨hp,0,none⟩=some v∧Calls Tryz.prog 234 #[v,.int .i64 i,.int .i64 j] W fun e w'=>e=.returned (.bool (lt (D i) (D j)))∧S w' D
 swap:∀(W:World) (D:Nat→α) (i j:Nat),S W D→i<n→j<n→∃v:Value,W.cell? ⟨hp,0,none⟩=some v∧Calls Tryz.prog 237 #[v,.int .i64 i,.int .i64 j] W fun e w'=>e=.returned (.tuple #[])∧S w' (swap D i j)
theorem heapUp{α:Type}(lt:α→α→Bool)(hp n:Nat)(S:World→(Nat→α)→Prop)(HK:Keeps lt hp n S)(hn:n≤1048576)(j:Nat)(hj:j<n)(D:Nat→α)(w:World)(h:S w D) :
  Calls Tryz.prog 164 #[.iface 145 (.pointer (some ⟨hp,0,none⟩)),.int .i64 j] w fun e w'=>e=.returned (.tuple #[])∧S w' (upT lt D j):=by
 have HKK:Hid (Keeps lt hp n S):=HK;have HS:Hid (S w D):=h;clear h HK;go_enter Tryz.func164,Tryz.ntmps164
 go_wp2;go_loopw [1] (fun x wr=>∃(q:Nat) (E:Nat→α),q≤j∧x=.int .i64 q∧Hid (S wr E)∧Hid (upT lt E q=upT lt D j)) (fun x _=>(intOf x).toNat)
 case atStart=>exact⟨j,D,Nat.le_refl _,rfl,HS,rfl⟩
 case round=>
  obtain⟨q,E,hq,rfl,HE,HU⟩:=hrel;clear HS;by_cases h0:q=0
  ·subst h0;have HT:Hid (upT lt E 0=E):=upT_top lt E 0 rfl;go_wp2;go_end0;exact⟨rfl,by rw [← HU.out,HT.out];exact HE.out⟩
  ·obtain⟨p,hp2⟩:∃p,p=(q-1) / 2:=⟨_,rfl⟩
   have hpq:((q:Int)-1) / 2=(p:Int):=by omega
   have hwr:IntKind.i64.wrap ((q:Int)-1)=(q:Int)-1:=by rw [IntKind.wrap_i64];omega
   have hne:((p:Int) == (q:Int))=false:=by rw [Bool.eq_false_iff];intro h;rw [beq_iff_eq] at h;omega
   have hlt:p<q:=by omega
   have HL:Hid (∀(W:World),S W E→∃v:Value,W.cell? ⟨hp,0,none⟩=some v∧Calls Tryz.prog 234 #[v,.int .i64 q,.int .i64 p] W fun e w'=>e=.returned (.bool (lt (E q) (E p)))∧S w' E):=fun W hW=>HKK.out.less W E q p hW (by omega) (by omega)
   have HW:Hid (∀(W:World),S W E→∃v:Value,W.cell? ⟨hp,0,none⟩=some v∧Calls Tryz.prog 237 #[v,.int .i64 p,.int .i64 q] W fun e w'=>e=.returned (.tuple #[])∧S w' (swap E p q)):=fun W hW=>HKK.out.swap W E p q hW (by omega) (by omega)
   have HST:Hid (lt (E q) (E p)=false→upT lt E q=E):=fun h=>upT_stay lt E q (by rw [← hp2];exact h)
   have HGO:Hid (lt (E q) (E p)=true→upT lt E q=upT lt (swap E p q) p):=fun h=>by
    have:=upT_go lt E q (by omega) (by rw [← hp2];exact h);rw [← hp2] at this;exact this
   clear HKK hp2
   cases hb:lt (E q) (E p)
   ·have HT:Hid (upT lt E q=E):=HST.out hb;rw [hb] at HL;clear HST HGO hb HW;obtain⟨v1,cv1,hC1⟩:=HL.out _ HE.out;go_wp2_with fail
    rw [hpq];rw [mLess cv1 _];go_wp2_with fail
    refine hC1.mono ?_;rintro e W1 ⟨rfl,hS1⟩;go_wp2;go_end0;exact⟨rfl,by rw [← HU.out,HT.out];exact hS1⟩
   ·have HT:Hid (upT lt (swap E p q) p=upT lt D j):=(HGO.out hb).symm.trans HU.out;rw [hb] at HL;clear HST HGO hb HU;obtain⟨v2,cv2,hC2⟩:=HL.out _ HE.out;go_wp2_with fail
    rw [hpq];rw [mLess cv2 _];go_wp2_with fail
    refine hC2.mono ?_;rintro e W1 ⟨rfl,hS1⟩;obtain⟨v3,cv3,hC3⟩:=HW.out _ hS1;go_wp2_with fail
    rw [mSwap cv3 _];go_wp2_with fail
    refine hC3.mono ?_;rintro e W2 ⟨rfl,hS2⟩;go_wp2;go_roundw
    case rel=>exact⟨p,_,by omega,rfl,hS2,HT⟩
    case measure=>simp [intOf];omega
def DownPost{α:Type}(S:World→(Nat→α)→Prop)(E:Nat→α)(e:Ending)(w':World):Prop:=(∃b:Bool,e=.returned (.bool b))∧S w' E
theorem heapDown{α:Type}(lt:α→α→Bool)(hp n m:Nat)(S:World→(Nat→α)→Prop)(HK:Keeps lt hp m S)(hnm:n≤m)(hn:m≤1048576)(i:Nat)(hi:i≤n)(D:Nat→α)(w:World)(h:S w D) :
  Calls Tryz.prog 165 #[.iface 145 (.pointer (some ⟨hp,0,none⟩)),.int .i64 i,.int .i64 n] w (DownPost S (downT lt n D i)):=by
 have HKK:Hid (Keeps lt hp m S):=HK;have HS:Hid (S w D):=h;clear h HK;go_enter Tryz.func165,Tryz.ntmps165
 go_wp2;go_loopw [7] (fun x wr=>∃(q:Nat) (E:Nat→α),i≤q∧q≤n∧x=.int .i64 q∧Hid (S wr E)∧Hid (downT lt n E q=downT lt n D i)) (fun x _=>n-(intOf x).toNat)
 case atStart=>exact⟨i,D,Nat.le_refl _,hi,rfl,HS,rfl⟩
 case round=>
  obtain⟨q,E,hq,hqn,rfl,HE,HU⟩:=hrel;clear HS;have hw1:IntKind.i64.wrap (2*(q:Int))=2*(q:Int):=by rw [IntKind.wrap_i64];omega
  have hw2:IntKind.i64.wrap (2*(q:Int)+1)=2*(q:Int)+1:=by rw [IntKind.wrap_i64];omega
  have hw3:IntKind.i64.wrap (2*(q:Int)+1+1)=2*(q:Int)+1+1:=by rw [IntKind.wrap_i64];omega
  have hn0:¬ 2*(q:Int)+1<0:=by omega
  by_cases h1:2*q+1<n
  ·have h1':¬ (n:Int)≤2*(q:Int)+1:=by omega
   obtain⟨kn,kp,ki⟩:=kid_bd lt n E q h1;have HKD:Hid (kid lt n E q=if 2*q+2<n∧lt (E (2*q+2)) (E (2*q+1))=true then 2*q+2 else 2*q+1):=rfl;have HST:Hid (lt (E (kid lt n E q)) (E q)=false→downT lt n E q=E):=downT_stay lt n E q;have HGO:Hid (lt (E (kid lt n E q)) (E q)=true→downT lt n E q=downT lt n (swap E q (kid lt n E q)) (kid lt n E q)):=downT_go lt n E q h1;have hc1:((2*q+1:Nat):Int)=2*(q:Int)+1:=by omega
   have hc2:((2*q+2:Nat):Int)=2*(q:Int)+1+1:=by omega
   have HL1:Hid (2*q+2<n→∀(W:World),S W E→∃v:Value,W.cell? ⟨hp,0,none⟩=some v∧Calls Tryz.prog 234 #[v,.int .i64 (2*(q:Int)+1+1),.int .i64 (2*(q:Int)+1)] W fun e w'=>e=.returned (.bool (lt (E (2*q+2)) (E (2*q+1))))∧S w' E):=fun hh W hW=>by
    have:=HKK.out.less W E (2*q+2) (2*q+1) hW (by omega) (by omega);rw [hc1,hc2] at this;exact this
   have HL2:Hid (∀(W:World),S W E→∃v:Value,W.cell? ⟨hp,0,none⟩=some v∧Calls Tryz.prog 234 #[v,.int .i64 (kid lt n E q:Nat),.int .i64 q] W fun e w'=>e=.returned (.bool (lt (E (kid lt n E q)) (E q)))∧S w' E):=fun W hW=>HKK.out.less W E _ q hW (by omega) (by omega)
   have HW2:Hid (∀(W:World),S W E→∃v:Value,W.cell? ⟨hp,0,none⟩=some v∧Calls Tryz.prog 237 #[v,.int .i64 q,.int .i64 (kid lt n E q:Nat)] W fun e w'=>e=.returned (.tuple #[])∧S w' (swap E q (kid lt n E q))):=fun W hW=>HKK.out.swap W E q _ hW (by omega) (by omega)
   generalize kid lt n E q=kd at kn kp ki HKD HST HGO HL2 HW2;clear HKK h1;by_cases hs:2*q+2<n
   ·have hs':2*(q:Int)+1+1<(n:Int):=by omega
    have HL3:=HL1.out hs;have HL4:Hid _:=HL3;clear HL1 HL3
    cases hb:lt (E (2*q+2)) (E (2*q+1))
    ·obtain rfl:kd=2*q+1:=by
      have:=HKD.out;rw [if_neg (by rw [hb];simp)] at this;exact this
     rw [hb] at HL4;rw [hc1] at HL2 HW2;clear HKD hb
     cases hd:lt (E (2*q+1)) (E q)
     ·have HT:Hid (downT lt n E q=E):=HST.out hd;rw [hd] at HL2;clear HST HGO hd HW2;obtain⟨v4,cv4,hC4⟩:=HL4.out _ HE.out;go_wp2_with fail
      rw [mLess cv4 _];go_wp2_with fail
      refine hC4.mono ?_;rintro e W1 ⟨rfl,hS1⟩;obtain⟨v5,cv5,hC5⟩:=HL2.out _ hS1;go_wp2_with fail
      rw [mLess cv5 _];go_wp2_with fail
      refine hC5.mono ?_;rintro e W2 ⟨rfl,hS2⟩;go_wp2;go_ret;exact⟨⟨_,rfl⟩,by rw [← HU.out,HT.out];exact hS2⟩
     ·have HT:Hid (downT lt n (swap E q (2*q+1)) (2*q+1)=downT lt n D i):=(HGO.out hd).symm.trans HU.out;rw [hd] at HL2;clear HST HGO hd HU;obtain⟨v6,cv6,hC6⟩:=HL4.out _ HE.out;go_wp2_with fail
      rw [mLess cv6 _];go_wp2_with fail
      refine hC6.mono ?_;rintro e W1 ⟨rfl,hS1⟩;obtain⟨v7,cv7,hC7⟩:=HL2.out _ hS1;go_wp2_with fail
      rw [mLess cv7 _];go_wp2_with fail
      refine hC7.mono ?_;rintro e W2 ⟨rfl,hS2⟩;obtain⟨v8,cv8,hC8⟩:=HW2.out _ hS2;go_wp2_with fail
      rw [mSwap cv8 _];go_wp2_with fail
      refine hC8.mono ?_;rintro e W3 ⟨rfl,hS3⟩;go_wp2;go_roundw
      case rel=>exact⟨2*q+1,_,by omega,by omega,by rw [hc1],hS3,HT⟩
      case measure=>simp [intOf];omega
    ·obtain rfl:kd=2*q+2:=by
      have:=HKD.out;rw [if_pos ⟨hs,hb⟩] at this;exact this
     rw [hb] at HL4;rw [hc2] at HL2 HW2;clear HKD hb
     cases hd:lt (E (2*q+2)) (E q)
     ·have HT:Hid (downT lt n E q=E):=HST.out hd;rw [hd] at HL2;clear HST HGO hd HW2;obtain⟨v9,cv9,hC9⟩:=HL4.out _ HE.out;go_wp2_with fail
      rw [mLess cv9 _];go_wp2_with fail
      refine hC9.mono ?_;rintro e W1 ⟨rfl,hS1⟩;obtain⟨v10,cv10,hC10⟩:=HL2.out _ hS1;go_wp2_with fail
      rw [mLess cv10 _];go_wp2_with fail
      refine hC10.mono ?_;rintro e W2 ⟨rfl,hS2⟩;go_wp2;go_ret;exact⟨⟨_,rfl⟩,by rw [← HU.out,HT.out];exact hS2⟩
     ·have HT:Hid (downT lt n (swap E q (2*q+2)) (2*q+2)=downT lt n D i):=(HGO.out hd).symm.trans HU.out;rw [hd] at HL2;clear HST HGO hd HU;obtain⟨v11,cv11,hC11⟩:=HL4.out _ HE.out;go_wp2_with fail
      rw [mLess cv11 _];go_wp2_with fail
      refine hC11.mono ?_;rintro e W1 ⟨rfl,hS1⟩;obtain⟨v12,cv12,hC12⟩:=HL2.out _ hS1;go_wp2_with fail
      rw [mLess cv12 _];go_wp2_with fail
      refine hC12.mono ?_;rintro e W2 ⟨rfl,hS2⟩;obtain⟨v13,cv13,hC13⟩:=HW2.out _ hS2;go_wp2_with fail
      rw [mSwap cv13 _];go_wp2_with fail
      refine hC13.mono ?_;rintro e W3 ⟨rfl,hS3⟩;go_wp2;go_roundw
      case rel=>exact⟨2*q+2,_,by omega,by omega,by rw [hc2],hS3,HT⟩
      case measure=>simp [intOf];omega
   ·have hs':¬ 2*(q:Int)+1+1<(n:Int):=by omega
    obtain rfl:kd=2*q+1:=by
     have:=HKD.out;rw [if_neg (by omega)] at this;exact this
    rw [hc1] at HL2 HW2;clear HKD HL1
    cases hd:lt (E (2*q+1)) (E q)
    ·have HT:Hid (downT lt n E q=E):=HST.out hd;rw [hd] at HL2;clear HST HGO hd HW2;obtain⟨v14,cv14,hC14⟩:=HL2.out _ HE.out;go_wp2_with fail
     rw [mLess cv14 _];go_wp2_with fail
     refine hC14.mono ?_;rintro e W2 ⟨rfl,hS2⟩;go_wp2;go_ret;exact⟨⟨_,rfl⟩,by rw [← HU.out,HT.out];exact hS2⟩
    ·have HT:Hid (downT lt n (swap E q (2*q+1)) (2*q+1)=downT lt n D i):=(HGO.out hd).symm.trans HU.out;rw [hd] at HL2;clear HST HGO hd HU;obtain⟨v15,cv15,hC15⟩:=HL2.out _ HE.out;go_wp2_with fail
     rw [mLess cv15 _];go_wp2_with fail
     refine hC15.mono ?_;rintro e W2 ⟨rfl,hS2⟩;obtain⟨v16,cv16,hC16⟩:=HW2.out _ hS2;go_wp2_with fail
     rw [mSwap cv16 _];go_wp2_with fail
     refine hC16.mono ?_;rintro e W3 ⟨rfl,hS3⟩;go_wp2;go_roundw
     case rel=>exact⟨2*q+1,_,by omega,by omega,by rw [hc1],hS3,HT⟩
     case measure=>simp [intOf];omega
  ·have HT:Hid (downT lt n E q=E):=downT_end lt n E q h1;have h1':(n:Int)≤2*(q:Int)+1:=by omega
   go_wp2;go_ret;exact⟨⟨_,rfl⟩,by rw [← HU.out,HT.out];exact HE.out⟩
end Hp
end
section
namespace Hp
structure Heaps{α:Type}(lt:α→α→Bool)(hp top:Nat)(S:Nat→World→(Nat→α)→Prop):Prop where
 keep:∀n,n≤top→Keeps lt hp n (S n)
 len:∀(n:Nat) (W:World) (D:Nat→α),n≤top→S n W D→∃v:Value,W.cell? ⟨hp,0,none⟩=some v∧Calls Tryz.prog 118 #[v] W fun e w'=>e=.returned (.int .i64 n)∧S n w' D
def Pushes{α:Type}(hp top:Nat)(S:Nat→World→(Nat→α)→Prop)(bx:α→Value):Prop:=∀(n:Nat) (W:World) (D:Nat→α) (x:α),n+1≤top→S n W D→Calls Tryz.prog 236 #[.pointer (some ⟨hp,0,none⟩),bx x] W fun e w'=>e=.returned (.tuple #[])∧S (n+1) w' (fun k=>if k=n then x else D k)
def Pops{α:Type}(hp top:Nat)(S:Nat→World→(Nat→α)→Prop)(bx:α→Value):Prop:=∀(n:Nat) (W:World) (D:Nat→α),n+1≤top→S (n+1) W D→Calls Tryz.prog 235 #[.pointer (some ⟨hp,0,none⟩)] W fun e w'=>e=.returned (bx (D n))∧S n w' D
def pushT{α:Type}(lt:α→α→Bool)(n:Nat)(D:Nat→α)(x:α):Nat→α:=upT lt (fun k=>if k=n then x else D k) n
def popT{α:Type}(lt:α→α→Bool)(n:Nat)(D:Nat→α):Nat→α:=downT lt n (swap D 0 n) 0
theorem pushT_heap{α:Type}{lt:α→α→Bool}(ho:Ord lt)(n:Nat)(D:Nat→α)(x:α)(h:IsHeap lt n D):IsHeap lt (n+1) (pushT lt n D x):=by
 unfold pushT upT;refine push_heap ho n _ (fun k h0 hk=>?_);rw [if_neg (by omega),if_neg (by omega)];exact h k h0 hk
theorem pushT_same{α:Type}(lt:α→α→Bool)(n:Nat)(D:Nat→α)(x:α):Same (n+1) (fun k=>if k=n then x else D k) (pushT lt n D x):=up_same lt (n+1) _ _ n (by omega)
theorem popT_heap{α:Type}{lt:α→α→Bool}(ho:Ord lt)(n:Nat)(D:Nat→α)(h:IsHeap lt (n+1) D):IsHeap lt n (popT lt n D):=pop_heap ho n D h n (Nat.le_refl _)
theorem popT_same{α:Type}(lt:α→α→Bool)(n:Nat)(D:Nat→α):Same n (swap D 0 n) (popT lt n D):=down_same lt n n (Nat.le_refl _) _ _ _
theorem popT_past{α:Type}(lt:α→α→Bool)(n:Nat)(D:Nat→α):popT lt n D n=D 0:=(down_past lt n _ _ _ n (Nat.le_refl _)).trans (swap_r D 0 n)
theorem popT_left{α:Type}(lt:α→α→Bool)(n:Nat)(D:Nat→α):(∀k,k<n→∃m,0<m∧m<n+1∧D m=popT lt n D k)∧(∀m,0<m→m<n+1→∃k,k<n∧popT lt n D k=D m):=by
 constructor
 ·intro k hk;obtain⟨m,hm,e⟩:=(popT_same lt n D).fro k hk;by_cases h0:m=0
  ·subst h0;rw [swap_l] at e;exact⟨n,by omega,by omega,e⟩
  ·rw [swap_o D 0 n m h0 (by omega)] at e;exact⟨m,by omega,by omega,e⟩
 ·intro m h0 hm;by_cases hmn:m=n
  ·obtain⟨k,hk,e⟩:=(popT_same lt n D).to 0 (by omega);rw [swap_l] at e;exact⟨k,hk,by rw [e,hmn]⟩
  ·obtain⟨k,hk,e⟩:=(popT_same lt n D).to m (by omega);rw [swap_o D 0 n m (by omega) hmn] at e;exact⟨k,hk,e⟩
theorem heapPush{α:Type}(lt:α→α→Bool)(hp top:Nat)(S:Nat→World→(Nat→α)→Prop)(bx:α→Value)(HH:Heaps lt hp top S)(HPU:Pushes hp top S bx)(htop:top≤1048576)(n:Nat)(hn:n+1≤top)(D:Nat→α)(x:α)(w:World)(h:S n w D) :
  Calls Tryz.prog 143 #[.iface 145 (.pointer (some ⟨hp,0,none⟩)),bx x] w fun e w'=>e=.returned (.tuple #[])∧S (n+1) w' (pushT lt n D x):=by
 have HP:=HPU n w D x hn h;have HL:Hid (∀(W:World) (E:Nat→α),S (n+1) W E→∃v:Value,W.cell? ⟨hp,0,none⟩=some v∧Calls Tryz.prog 118 #[v] W fun e w'=>e=.returned (.int .i64 (n+1:Nat))∧S (n+1) w' E):=fun W E hW=>HH.len (n+1) W E hn hW
 have HU:Hid (∀(W:World) (E:Nat→α),S (n+1) W E→Calls Tryz.prog 164 #[.iface 145 (.pointer (some ⟨hp,0,none⟩)),.int .i64 n] W fun e w'=>e=.returned (.tuple #[])∧S (n+1) w' (upT lt E n)):=fun W E hW=>heapUp lt hp (n+1) (S (n+1)) (HH.keep (n+1) hn) (by omega) n (by omega) E W hW
 have hcn:((n+1:Nat):Int)=(n:Int)+1:=by omega
 rw [hcn] at HL;have hws:IntKind.i64.wrap ((n:Int)+1-1)=(n:Int):=by rw [IntKind.wrap_i64];omega
 have hws2:(n:Int)+1-1=(n:Int):=by omega
 generalize bx x=bv at HP ⊢;clear h HH HPU;go_enter Tryz.func143,Tryz.ntmps143
 go_wp2_with fail
 refine HP.mono ?_;rintro e W1 ⟨rfl,hS1⟩;obtain⟨v1,cv1,hC1⟩:=HL.out _ _ hS1;go_wp2_with fail
 rw [mLen cv1 _];go_wp2_with fail
 refine hC1.mono ?_;rintro e W2 ⟨rfl,hS2⟩;go_wp2_with fail
 try rw [hws]
 try rw [hws2]
 refine(HU.out _ _ hS2).mono ?_;rintro e W3 ⟨rfl,hS3⟩;go_wp2;go_end0;exact⟨rfl,hS3⟩
theorem heapPop{α:Type}(lt:α→α→Bool)(hp top:Nat)(S:Nat→World→(Nat→α)→Prop)(bx:α→Value)(HH:Heaps lt hp top S)(HPO:Pops hp top S bx)(htop:top≤1048576)(n:Nat)(hn:n+1≤top)(D:Nat→α)(w:World)(h:S (n+1) w D) :
  Calls Tryz.prog 144 #[.iface 145 (.pointer (some ⟨hp,0,none⟩))] w fun e w'=>e=.returned (bx (D 0))∧S n w' (popT lt n D):=by
 have HL:=HH.len (n+1) w D hn h;have HS:Hid (∀(W:World),S (n+1) W D→∃v:Value,W.cell? ⟨hp,0,none⟩=some v∧Calls Tryz.prog 237 #[v,.int .i64 0,.int .i64 n] W fun e w'=>e=.returned (.tuple #[])∧S (n+1) w' (swap D 0 n)):=fun W hW=>(HH.keep (n+1) hn).swap W D 0 n hW (by omega) (by omega)
 have HU:Hid (∀(W:World) (E:Nat→α),S (n+1) W E→Calls Tryz.prog 165 #[.iface 145 (.pointer (some ⟨hp,0,none⟩)),.int .i64 0,.int .i64 n] W (DownPost (S (n+1)) (downT lt n E 0))):=fun W E hW=>heapDown lt hp n (n+1) (S (n+1)) (HH.keep (n+1) hn) (by omega) (by omega) 0 (by omega) E W hW
 have HP:Hid (∀(W:World) (E:Nat→α),S (n+1) W E→Calls Tryz.prog 235 #[.pointer (some ⟨hp,0,none⟩)] W fun e w'=>e=.returned (bx (E n))∧S n w' E):=fun W E hW=>HPO n W E hn hW
 have HV:Hid (popT lt n D n=D 0):=popT_past lt n D;have hcn:((n+1:Nat):Int)=(n:Int)+1:=by omega
 rw [hcn] at HL;have hws:IntKind.i64.wrap ((n:Int)+1-1)=(n:Int):=by rw [IntKind.wrap_i64];omega
 have hws2:(n:Int)+1-1=(n:Int):=by omega
 clear h HH HPO;go_enter Tryz.func144,Tryz.ntmps144
 obtain⟨v0,cv0,hC0⟩:=HL;go_wp2_with fail
 rw [mLen cv0 _];go_wp2_with fail
 refine hC0.mono ?_;rintro e W1 ⟨rfl,hS1⟩;obtain⟨v2,cv2,hC2⟩:=HS.out _ hS1;go_wp2_with fail
 try rw [hws]
 try rw [hws2]
 rw [mSwap cv2 _];go_wp2_with fail
 refine hC2.mono ?_;rintro e W2 ⟨rfl,hS2⟩;go_wp2_with fail
 try rw [hws]
 try rw [hws2]
 refine(HU.out _ _ hS2).mono ?_;rintro e W3 ⟨⟨b,rfl⟩,hS3⟩;have HPP:=HP.out _ _ hS3;have HV2:Hid (downT lt n (swap D 0 n) 0 n=D 0):=HV.out;rw [HV2.out] at HPP;generalize hbv:bx (D 0)=bv at HPP;have HBV:Hid (bx (D 0)=bv):=hbv;clear HV HV2 HP HU HS hbv;go_wp2_with fail
 refine HPP.mono ?_;rintro e W4 ⟨rfl,hS4⟩;go_wp2;go_ret;exact⟨by rw [HBV.out];rfl,hS4⟩
end Hp
end
section
namespace Fw
theorem drew_add(W:World)(m n:Nat):(W.drewN m).drewN n=W.drewN (m+n):=by first | rfl | simp
def ltL(a b:Int × Int):Bool:=if a.2=b.2 then decide (a.1<b.1) else decide (b.2<a.2)
theorem less(g cap n:Nat)(D:Nat→Int × Int)(i j:Nat)(hi:i<n)(hj:j<n)(W:World)(h:∀k,k<n→W.cell? ⟨g,k*2,none⟩=some (.int .i64 (D k).1)∧W.cell? ⟨g,k*2+1,none⟩=some (.int .i64 (D k).2)) :
  Calls Tryz.prog 234 #[.slice (some ⟨g,0,none⟩) n cap,.int .i64 i,.int .i64 j] W fun e w'=>e=.returned (.bool (ltL (D i) (D j)))∧∃m,w'=W.drewN m:=by
 obtain⟨a0,a1⟩:=h i hi;obtain⟨b0,b1⟩:=h j hj;have HT:Hid (ltL (D i) (D j)=if (D i).2=(D j).2 then decide ((D i).1<(D j).1) else decide ((D j).2<(D i).2)):=rfl;clear h;have hii:(i:Int)<(n:Int):=by omega
 have hjj:(j:Int)<(n:Int):=by omega
 generalize D i=x at a0 a1 HT ⊢;generalize D j=y at b0 b1 HT ⊢;obtain⟨xn,xr⟩:=x;obtain⟨yn,yr⟩:=y;dsimp only at a0 a1 b0 b1 HT;by_cases hr:xr=yr
 ·have hrb:(xr == yr)=true:=by rw [beq_iff_eq];exact hr
  have HD:Hid (ltL (xn,xr) (yn,yr)=decide (xn<yn)):=by show _=_;rw [HT.out,if_pos hr]
  clear HT;subst hr;go_enter Tryz.func234,Tryz.ntmps234
  go_wp2_with fail
  go_quiet (fail)
  go_wp2_with fail
  go_quiet (fail)
  go_wp2;go_ret;exact⟨by rw [HD.out];rfl,_,drew_add _ _ _⟩
 ·have hrb:(xr == yr)=false:=by rw [Bool.eq_false_iff];intro q;rw [beq_iff_eq] at q;exact hr q
  have HD:Hid (ltL (xn,xr) (yn,yr)=decide (yr<xr)):=by show _=_;rw [HT.out,if_neg hr]
  clear HT;go_enter Tryz.func234,Tryz.ntmps234
  go_wp2_with fail
  go_quiet (fail)
  go_wp2_with fail
  go_quiet (fail)
  go_wp2;go_ret;exact⟨by rw [HD.out];rfl,_,drew_add _ _ _⟩
def putL(W:World)(g i:Nat)(x:Int × Int):World:=(W.setCell ⟨g,i*2,none⟩ (.int .i64 x.1)).setCell ⟨g,i*2+1,none⟩ (.int .i64 x.2)
theorem swap(g cap n:Nat)(D:Nat→Int × Int)(i j:Nat)(hi:i<n)(hj:j<n)(W:World)(h:∀k,k<n→W.cell? ⟨g,k*2,none⟩=some (.int .i64 (D k).1)∧W.cell? ⟨g,k*2+1,none⟩=some (.int .i64 (D k).2))(hf:∀k,k<n*2→W.frozen? ⟨g,k,none⟩=false) :
  Calls Tryz.prog 237 #[.slice (some ⟨g,0,none⟩) n cap,.int .i64 i,.int .i64 j] W fun e w'=>e=.returned (.tuple #[])∧∃m,w'=(putL (putL W g i (D j)) g j (D i)).drewN m:=by
 obtain⟨a0,a1⟩:=h i hi;have f0:=hf (i*2) (by omega);have f1:=hf (i*2+1) (by omega);have hii:(i:Int)<(n:Int):=by omega
 by_cases hne:i=j
 ·subst hne;clear h hf;unfold putL;generalize D i=x at a0 a1 ⊢;obtain⟨xn,xr⟩:=x;dsimp only at a0 a1;go_enter Tryz.func237,Tryz.ntmps237
  go_wp2_with fail
  go_region
  all_goals (go_wp2)
  all_goals go_end0
  all_goals exact⟨rfl,1,rfl⟩
 ·obtain⟨b0,b1⟩:=h j hj;have f2:=hf (j*2) (by omega);have f3:=hf (j*2+1) (by omega);clear h hf;unfold putL;have hjj:(j:Int)<(n:Int):=by omega
  have hne':¬ j=i:=fun e=>hne e.symm
  generalize D i=x at a0 a1 ⊢;generalize D j=y at b0 b1 ⊢;obtain⟨xn,xr⟩:=x;obtain⟨yn,yr⟩:=y;dsimp only at a0 a1 b0 b1;go_enter Tryz.func237,Tryz.ntmps237
  go_wp2_with fail
  go_region
  all_goals (go_wp2)
  all_goals go_end0
  all_goals exact⟨rfl,1,rfl⟩
/-! ### the leaders' cells -/
def flatL(D:Nat→Int × Int)(n:Nat):List Value:=(List.range (n*2)).map fun j=>.int .i64 (if j % 2=0 then (D (j / 2)).1 else (D (j / 2)).2)
theorem flatL_len(D:Nat→Int × Int)(n:Nat):(flatL D n).length=n*2:=by simp [flatL]
theorem flatL_get(D:Nat→Int × Int)(n j:Nat)(h:j<n*2):(flatL D n)[j]? = some (.int .i64 (if j % 2=0 then (D (j / 2)).1 else (D (j / 2)).2)):=by simp [flatL,h]
theorem flatL_two(D:Nat→Int × Int)(n k:Nat)(h:k<n):(flatL D n)[k*2]? = some (.int .i64 (D k).1)∧(flatL D n)[k*2+1]? = some (.int .i64 (D k).2):=by
 constructor
 ·rw [flatL_get D n _ (by omega),if_pos (by omega),show k*2 / 2=k by omega]
 ·rw [flatL_get D n _ (by omega),if_neg (by omega),show(k*2+1) / 2=k by omega]
theorem flatL_ext(D:Nat→Int × Int)(n:Nat)(xs:List Value)(hl:xs.length=n*2)(h:∀k,k<n→xs[k*2]? = some (.int .i64 (D k).1)∧xs[k*2+1]? = some (.int .i64 (D k).2)):xs=flatL D n:=by
 apply List.ext_getElem?;intro j;by_cases hj:j<n*2
 ·obtain⟨h1,h2⟩:=h (j / 2) (by omega);obtain⟨q1,q2⟩:=flatL_two D n (j / 2) (by omega);by_cases hm:j % 2=0
  ·have e:j / 2*2=j:=by omega
   rw [e] at h1 q1;rw [h1,q1]
  ·have e:j / 2*2+1=j:=by omega
   rw [e] at h2 q2;rw [h2,q2]
 ·rw [List.getElem?_eq_none (by omega),List.getElem?_eq_none (by rw [flatL_len];omega)]
theorem flatL_snoc(D:Nat→Int × Int)(n:Nat)(x:Int × Int):flatL (fun k=>if k=n then x else D k) (n+1)=flatL D n++[.int .i64 x.1,.int .i64 x.2]:=by
 symm
 refine flatL_ext _ _ _ (by rw [List.length_append,flatL_len];simp;omega) (fun k hk=>?_);by_cases h:k=n
 ·subst h;rw [List.getElem?_append_right (by rw [flatL_len];omega),List.getElem?_append_right (by rw [flatL_len];omega),flatL_len];simp
 ·obtain⟨q1,q2⟩:=flatL_two D n k (by omega);rw [List.getElem?_append_left (by rw [flatL_len];omega),List.getElem?_append_left (by rw [flatL_len];omega),q1,q2,if_neg h];exact⟨rfl,rfl⟩
theorem flatL_less(D:Nat→Int × Int)(n:Nat):(flatL D (n+1)).take (n*2)=flatL D n:=by
 refine flatL_ext _ _ _ (by rw [List.length_take,flatL_len];omega) (fun k hk=>?_);obtain⟨q1,q2⟩:=flatL_two D (n+1) k (by omega);rw [List.getElem?_take,List.getElem?_take,if_pos (by omega),if_pos (by omega)];exact⟨q1,q2⟩
structure Lead(m0 g cap n:Nat)(W:World)(D:Nat→Int × Int):Prop where
 own:W.ownsRow m0 148 2 (.slice (some ⟨g,0,none⟩) n cap) n (flatL D n)
theorem Lead.cells{m0 g cap n:Nat}{W:World}{D:Nat→Int × Int}(h:Lead m0 g cap n W D):∀k,k<n→W.cell? ⟨g,k*2,none⟩=some (.int .i64 (D k).1)∧W.cell? ⟨g,k*2+1,none⟩=some (.int .i64 (D k).2):=fun k hk=>by
 obtain⟨q1,q2⟩:=flatL_two D n k hk;have e1:=World.ownsRow.cells h.own (g:=g) rfl _ _ q1;have e2:=World.ownsRow.cells h.own (g:=g) rfl _ _ q2;constructor
 ·rw [WideShapes.add_plain] at e1;simpa using e1
 ·rw [WideShapes.add_plain] at e2;simpa using e2
theorem Lead.put{m0 g cap n:Nat}{W:World}{D:Nat→Int × Int}(h:Lead m0 g cap n W D)(i:Nat)(x:Int × Int):Lead m0 g cap n (putL W g i x) (fun k=>if k=i then x else D k):=by
 refine⟨?_⟩;obtain⟨h1,⟨hv,_⟩ | ⟨g',cap',cur,hv,hb,hg,hc,hm,hs,ht⟩⟩:=h.own
 ·cases hv
 ·injection hv with ha _ hcc;injection ha with ha;injection ha with ha;subst ha hcc;have hg1:=Joins.block_setCell (i:=i*2) hg (.int .i64 x.1);have hg2:=Joins.block_setCell (i:=i*2+1) hg1 (.int .i64 x.2);refine⟨flatL_len _ _,.inr ⟨g,cap,_,rfl,hb,hg2,hc,hm,by simpa using hs,?_⟩⟩;refine flatL_ext _ _ _ (by simp;omega) (fun k hk=>?_);have q:=flatL_two D n k hk;rw [← ht] at q;rw [List.getElem?_take,if_pos (show k*2<n*2 by omega),List.getElem?_take,if_pos (show k*2+1<n*2 by omega)] at q ⊢;simp only [Array.getElem?_toList] at q ⊢;by_cases e:k=i
  ·subst e;have l1:k*2+1<cur.size:=by omega
   rw [if_pos rfl];constructor
   ·rw [Array.getElem?_setIfInBounds_ne (by omega),Array.getElem?_setIfInBounds_self_of_lt (by omega)]
   ·rw [Array.getElem?_setIfInBounds_self_of_lt (by simpa using l1)]
  ·rw [if_neg e];constructor
   ·rw [Array.getElem?_setIfInBounds_ne (by omega),Array.getElem?_setIfInBounds_ne (by omega)];exact q.1
   ·rw [Array.getElem?_setIfInBounds_ne (by omega),Array.getElem?_setIfInBounds_ne (by omega)];exact q.2
theorem swap_puts(D:Nat→Int × Int)(i j:Nat):(fun k=>if k=j then D i else if k=i then D j else D k)=Hp.swap D i j:=by
 funext k
 unfold Hp.swap;by_cases h1:k=i
 ·by_cases h2:k=j
  ·rw [if_pos h2,if_pos h1];rw [← h1,← h2]
  ·rw [if_neg h2,if_pos h1,if_pos h1]
 ·by_cases h2:k=j
  ·rw [if_pos h2,if_neg h1,if_pos h2]
  ·rw [if_neg h2,if_neg h1,if_neg h1,if_neg h2]
def Wt(m0 r hp n:Nat)(W:World)(D:Nat→Int × Int):Prop:=(m0≤hp∧hp≠r)∧∃g cap,W.heap[hp]? = some (.cells #[.slice (some ⟨g,0,none⟩) n cap] 168 (0,0))∧Lead m0 g cap n W D∧g≠r
def Kp(m0 r:Nat)(W W':World):Prop:=Below m0 W W'∧(r<W.heap.size→W'.heap[r]? = W.heap[r]?)
theorem kp_refl(m0 r:Nat)(W:World):Kp m0 r W W:=⟨Below.refl _ _,fun _=>rfl⟩
theorem kp_drewN(m0 r:Nat)(W:World)(m:Nat):Kp m0 r W (W.drewN m):=⟨⟨rfl,rfl,rfl,Nat.le_refl _,fun _ _=>rfl⟩,fun _=>rfl⟩
theorem cell_of{W:World}{b:Nat}{v:Value}{t:TypeId}(h:W.heap[b]? = some (.cells #[v] t (0,0))):W.cell? ⟨b,0,none⟩=some v:=by simp [World.cell?,h]
theorem frozen_of{W:World}{b:Nat}{v:Value}{t:TypeId}(h:W.heap[b]? = some (.cells #[v] t (0,0))):W.frozen? ⟨b,0,none⟩=false:=by simp [World.frozen?,h]
theorem lead_ne{m0 hp n g cap:Nat}{W:World}{v:Value}{D:Nat→Int × Int}(h1:W.heap[hp]? = some (.cells #[v] 168 (0,0)))(h2:Lead m0 g cap n W D):g≠hp∧m0≤g:=by
 obtain⟨_,⟨hv,_⟩ | ⟨g',cap',cur,hv,hb,hg,_⟩⟩:=h2.own
 ·cases hv
 ·injection hv with ha _ _;injection ha with ha;injection ha with ha;subst ha;refine⟨fun e=>?_,hb⟩;rw [e,h1] at hg;injection hg with hg;injection hg with _ hg _
  cases hg
end Fw
end
section
namespace Fw
theorem len(a:Option Addr)(cap n:Nat)(W:World):Calls Tryz.prog 118 #[.slice a n cap] W fun e w'=>e=.returned (.int .i64 n)∧w'=W:=by
 go_enter Tryz.func118,Tryz.ntmps118
 go_wp2;go_ret;exact⟨rfl,rfl⟩
theorem step_own{P:Program}{ops:Array Oper}{o:Oper}{a:Act}{w:World}{K:Act→World→Prop}{Q:Exit→Act→World→Prop}{E:Prop}
  (hg:o.guard=none) (s x:Operand) (t:TypeId) (hop:o.op=Op.call { callee:=Callee.builtin Builtin.append,args:=#[s,x],argTypes:=#[t,t] })
  (base:Nat) (e:TypeId) (i:TypeInfo) (z:Value) (size bytes:Nat) (ht:P.underlying t=some (.slice e)) (hi:P.info? e=some i) (hz:i.zero=some z) (hsize:i.size=size) (hby:i.bytes=bytes) (hzs:z.cells.size=size) (hsz:0<size)
  (v:Value) (n:Nat) (xs:List Value) (hs:a.eval s=v) (hown:w.ownsRow base e size v n xs)
  (ad:Addr) (m c:Nat) (news:List Value) (hx:a.eval x=.slice (some ad) m c) (hl:news.length=m*size) (hnews:∀j u,news[j]? = some u→w.cell? (ad.add j)=some u) (h1:∀u∈news,u.oneCell'=true)
  (h63:n+m≤maxLen) (hbytes:(n+m)*bytes≤140737488355328) (hbase:base≤w.heap.size)
  (hK:∀v' w',w'.ownsRow base e size v' (n+m) (xs++news)→w.grownBy w' v.ownBlock→(v'=.slice none 0 0↔v=.slice none 0 0∧m=0)→K (a.put o.dst v') w') :
  if Region.wanted o (yielded ops a.tmps)=true then Oper.wp P o a w K Q else E:=by
 rw [if_pos (by simp [Region.wanted,hg])];exact wp_append_own w s x t hop base e i z size bytes ht hi hz hsize hby hzs hsz v n xs hs hown ad m c news hx hl hnews h1 h63 hbytes hbase hK
theorem infoL:(Tryz.prog.info? 148).map (fun i=>(i.zero,i.size,i.bytes))=some (some (.agg #[.int .i64 0,.int .i64 0]),2,16):=by kernel_rfl
theorem new_lead(W:World)(x:Int × Int)(t:TypeId):∀(j:Nat) u,([.int .i64 x.1,.int .i64 x.2]:List Value)[j]? = some u→(W.alloc (.cells #[.int .i64 x.1,.int .i64 x.2] t)).cell? ((⟨W.heap.size,0,none⟩:Addr).add j)=some u:=by
 intro j u hj;match j,hj with
 | 0,hj=>simp at hj;subst hj;simp [Addr.add]
 | 1,hj=>simp at hj;subst hj;simp [Addr.add]
theorem asL(v:Value)(xT:TypeId)(w:World):(Instr.typeAssert (.iface 148 v) xT 148 false).run Tryz.prog w=.ok v w:=by kernel_rfl
theorem own_succ{W:World}{base:Nat}{e:TypeId}{size:Nat}{v:Value}{k:Nat}{xs:List Value}(h:W.ownsRow base e size v (k+1) xs):∃g cap,v=.slice (some ⟨g,0,none⟩) (k+1) cap:=by
 obtain⟨_,⟨_,h0⟩ | ⟨g,cap,_,hv,_⟩⟩:=h
 ·omega
 ·exact⟨g,cap,hv⟩
theorem put_in{m0 r hp g cap n:Nat}{W0 W5:World}{D:Nat→Int × Int}{x:Int × Int}{v':Value}(hmp:m0≤hp)(hpr:hp≠r)(hgr:g≠r)(hr:r<m0∨∃cs t fz,t≠148∧W0.heap[r]? = some (.cells cs t fz))(hh:W0.heap[hp]? = some (.cells #[.slice (some ⟨g,0,none⟩) n cap] 168 (0,0)))(hl:Lead m0 g cap n W0 D)
  (hown:W5.ownsRow m0 148 2 v' (n+1) (flatL D n++[.int .i64 x.1,.int .i64 x.2])) (hgrow:W0.grownBy W5 (Value.slice (some ⟨g,0,none⟩) n cap).ownBlock) :
  (∃u,W5.cell? ⟨hp,0,none⟩=some u)∧W5.frozen? ⟨hp,0,none⟩=false∧Wt m0 r hp (n+1) (W5.setCell ⟨hp,0,none⟩ v') (fun k=>if k=n then x else D k)∧Kp m0 r W0 (W5.setCell ⟨hp,0,none⟩ v'):=by
 obtain⟨hne,hmg⟩:=lead_ne hh hl;have hlt:hp<W0.heap.size:=(Array.getElem?_eq_some_iff.1 hh).1;have hk:W5.heap[hp]? = some (.cells #[.slice (some ⟨g,0,none⟩) n cap] 168 (0,0)):=by
  rw [hgrow.block hp hlt (by simp [Value.ownBlock];omega)];exact hh
 have hkr:r<W0.heap.size→W5.heap[r]? = W0.heap[r]?:=fun q=>hgrow.block r q (by simp [Value.ownBlock];omega)
 have hs:=one_setCell (u:=v') hk;obtain⟨h1,⟨_,h0⟩ | ⟨g',cap',cur,rfl,hb,hg,rest⟩⟩:=hown
 ·omega
 have hne':g'≠hp:=fun e=>by
  rw [e,hk] at hg;injection hg with hg;injection hg with _ hg _
  cases hg
 have hne2:g'≠r:=fun e=>by
  rcases hr with hr | ⟨cs,t,fz,ht,hr⟩
  ·omega
  ·rw [e,hkr (Array.getElem?_eq_some_iff.1 hr).1,hr] at hg;injection hg with hg;injection hg with _ hg _;exact ht hg
 refine⟨⟨_,cell_of hk⟩,frozen_of hk,⟨⟨hmp,hpr⟩,g',cap',hs,⟨?_⟩,hne2⟩,?_,?_⟩
 ·rw [flatL_snoc];exact⟨h1,.inr ⟨g',cap',cur,rfl,hb,(Below.heap_setCell W5 ⟨hp,0,none⟩ _ g' hne').trans hg,rest⟩⟩
 ·exact Below.setCell (p:=⟨hp,0,none⟩) ((Below.refl m0 W0).grown hgrow (by omega) (fun k hk=>by simp [Value.ownBlock] at hk;omega)) hmp _
 ·exact fun q=>(Below.heap_setCell W5 ⟨hp,0,none⟩ _ r (fun e=>hpr e.symm)).trans (hkr q)
theorem push(m0 r hp n:Nat)(D:Nat→Int × Int)(x:Int × Int)(W:World)(hr:r<m0∨∃cs t fz,t≠148∧W.heap[r]? = some (.cells cs t fz))(hn:n+1≤1048576)(h:Wt m0 r hp n W D) :
   Calls Tryz.prog 236 #[.pointer (some ⟨hp,0,none⟩),.iface 148 (.agg #[.int .i64 x.1,.int .i64 x.2])] W fun e w'=>e=.returned (.tuple #[])∧Wt m0 r hp (n+1) w' (fun k=>if k=n then x else D k)∧Kp m0 r W w':=by
 obtain⟨⟨hmp,hpr⟩,g,cap,hh,hl,hgr⟩:=h;have hlt:hp<W.heap.size:=(Array.getElem?_eq_some_iff.1 hh).1;obtain⟨i0,hi,hz0,hz1,hz2⟩:=info_parts infoL;have c0:=cell_of hh;have f0:=frozen_of hh;have HP : Hid (∀(V W5:World) (v':Value),(∀b,b<W.heap.size→V.heap[b]? = W.heap[b]?)→V.ownsRow m0 148 2 (.slice (some ⟨g,0,none⟩) n cap) n (flatL D n)→Below m0 W V→W5.ownsRow m0 148 2 v' (n+1) (flatL D n++[.int .i64 x.1,.int .i64 x.2])→V.grownBy W5 (Value.slice (some ⟨g,0,none⟩) n cap).ownBlock →
     (∃u,W5.cell? ⟨hp,0,none⟩=some u)∧W5.frozen? ⟨hp,0,none⟩=false∧Hid (Wt m0 r hp (n+1) (W5.setCell ⟨hp,0,none⟩ v') (fun k=>if k=n then x else D k))∧Hid (Kp m0 r W (W5.setCell ⟨hp,0,none⟩ v'))):=by
   intro V W5 v' hV hR hB hown hgrow;have hr':r<m0∨∃cs t fz,t≠148∧V.heap[r]? = some (.cells cs t fz):=by
     rcases hr with hr | ⟨cs,t,fz,ht,hr⟩
     · exact .inl hr
     · exact .inr ⟨cs,t,fz,ht,(hV r (Array.getElem?_eq_some_iff.1 hr).1).trans hr⟩
   obtain⟨p1,p2,p3,p4⟩:=put_in hmp hpr hgr hr' ((hV hp hlt).trans hh) ⟨hR⟩ hown hgrow;exact⟨p1,p2,p3,hB.trans p4.1,fun q=>(p4.2 (Nat.lt_of_lt_of_le q hB.size)).trans (hV r q)⟩
 have HL:Hid (W.ownsRow m0 148 2 (.slice (some ⟨g,0,none⟩) n cap) n (flatL D n)):=hl.own;have HH:Hid (hp<W.heap.size∧m0≤hp):=⟨hlt,hmp⟩
 clear hh hl hlt hmp hr;have hta:=asL;have c1:(W.alloc (.cells #[.int .i64 x.1,.int .i64 x.2] 148)).cell? ⟨hp,0,none⟩=some (.slice (some ⟨g,0,none⟩) n cap):=(World.cell?_of_block (w:=W) (a:=⟨hp,0,none⟩) (Below.heap_alloc W _ hp HH.out.1)).trans c0;go_enter Tryz.func236,Tryz.ntmps236
 go_wp2_with fail
 go_region_law (
   (refine step_own rfl (.tmp 7) (.tmp 10) 168 rfl m0 148 i0 (.agg #[.int .i64 0,.int .i64 0]) 2 16 Tryz.underlying168 hi hz0 hz1 hz2 rfl (by decide) (.slice (some ⟨g,0,none⟩) n cap) n (flatL D n) (by simp [Act.eval]) (by first | exact(HL.out.alloc _) | exact(HL.out.alloc _).drew | exact HL.out.drew.alloc _) ⟨W.heap.size,0,none⟩ 1 1 [.int .i64 x.1,.int .i64 x.2] (by simp [Act.eval]) rfl (by first | exact new_lead W x _ | exact new_lead W.drew x _) (by intro u hu;simp at hu;rcases hu with rfl | rfl <;> rfl) (by unfold maxLen;omega) (by omega) (by have:=HH.out;simp;omega) ?_
    intro v' w5 hown5 hgrow5 hnil5;obtain⟨g5,cap5,rfl⟩:=own_succ hown5;have HQ:=HP.out _ _ _ (by first | (exact Below.heap_alloc W _) | (exact Below.heap_alloc W.drew _)) (by first | exact(HL.out.alloc _) | exact(HL.out.alloc _).drew | exact HL.out.drew.alloc _) (by first | exact((Below.refl _ W).alloc (by have:=HH.out;omega) _).drew | exact(Below.refl _ W).drew.alloc (by have:=HH.out;simp;omega) _) hown5 hgrow5;obtain⟨qu,qc⟩:=HQ.1;have q2:=HQ.2.1;have Q3:=HQ.2.2.1;have Q4:=HQ.2.2.2;clear hown5 hgrow5 hnil5 HQ))
 all_goals (go_wp2)
 all_goals go_end0
 all_goals exact⟨rfl,Q3.out,Q4.out⟩
theorem wt_alloc{m0 r hp n:Nat}{W:World}{D:Nat→Int × Int}(h:Wt m0 r hp n W D)(o:Obj):Wt m0 r hp n (W.alloc o) D:=by
 obtain⟨h0,g,cap,hh,hl,hr⟩:=h;exact⟨h0,g,cap,(Below.heap_alloc W o hp (Array.getElem?_eq_some_iff.1 hh).1).trans hh,⟨hl.own.alloc o⟩,hr⟩
theorem wt_lt{m0 r hp n:Nat}{W:World}{D:Nat→Int × Int}(h:Wt m0 r hp n W D):m0≤hp∧hp<W.heap.size:=by
 obtain⟨⟨h0,_⟩,g,cap,hh,hl,_⟩:=h;exact⟨h0,(Array.getElem?_eq_some_iff.1 hh).1⟩
theorem take_out{m0 r hp g cap n:Nat}{W0 V:World}{D:Nat→Int × Int}(hmp:m0≤hp)(hpr:hp≠r)(hgr:g≠r)(hh:V.heap[hp]? = some (.cells #[.slice (some ⟨g,0,none⟩) (n+1) cap] 168 (0,0)))(hl:Lead m0 g cap (n+1) V D)(hB:Kp m0 r W0 V)(hrs:r<W0.heap.size→r<V.heap.size) :
  Wt m0 r hp n (V.setCell ⟨hp,0,none⟩ (.slice (some ⟨g,0,none⟩) n cap)) D∧Kp m0 r W0 (V.setCell ⟨hp,0,none⟩ (.slice (some ⟨g,0,none⟩) n cap)):=by
 obtain⟨hne,hmg⟩:=lead_ne hh hl;have hs:=one_setCell (u:=.slice (some ⟨g,0,none⟩) n cap) hh;refine⟨⟨⟨hmp,hpr⟩,g,cap,hs,⟨?_⟩,hgr⟩,hB.1.setCell (p:=⟨hp,0,none⟩) hmp _,fun q=>(Below.heap_setCell V ⟨hp,0,none⟩ _ r (fun e=>hpr e.symm)).trans (hB.2 q)⟩;obtain⟨h1,⟨hv,_⟩ | ⟨g',cap',cur,hv,hb,hg,hc,hm,hsz,ht⟩⟩:=hl.own
 ·cases hv
 ·injection hv with ha _ hcc;injection ha with ha;injection ha with ha;subst ha hcc;refine⟨flatL_len _ _,.inr ⟨g,cap,cur,rfl,hb,(Below.heap_setCell V ⟨hp,0,none⟩ _ g hne).trans hg,by omega,hm,hsz,?_⟩⟩;rw [← flatL_less,← ht,List.take_take];congr 1
  omega
theorem pop(m0 r hp n:Nat)(D:Nat→Int × Int)(W:World)(hn:n+1≤1048576)(h:Wt m0 r hp (n+1) W D) :
  Calls Tryz.prog 235 #[.pointer (some ⟨hp,0,none⟩)] W fun e w'=>e=.returned (.iface 148 (.agg #[.int .i64 (D n).1,.int .i64 (D n).2]))∧Wt m0 r hp n w' D∧Kp m0 r W w':=by
 obtain⟨⟨hmp,hpr⟩,g,cap,hh,hl,hgr⟩:=h;have hlt:hp<W.heap.size:=(Array.getElem?_eq_some_iff.1 hh).1;have c0:=cell_of hh;have f0:=frozen_of hh;obtain⟨d0,d1⟩:=hl.cells n (by omega);have hcap:n+1≤cap:=by
  obtain⟨_,⟨hv,_⟩ | ⟨g',cap',cur,hv,_,_,hc,_⟩⟩:=hl.own
  ·cases hv
  ·injection hv with _ _ hcc;omega
 have HP:Hid (Wt m0 r hp n ((W.setCell ⟨hp,0,none⟩ (.slice (some ⟨g,0,none⟩) n cap)).alloc (.cells #[.int .i64 (D n).1,.int .i64 (D n).2] 148)) D∧Kp m0 r W ((W.setCell ⟨hp,0,none⟩ (.slice (some ⟨g,0,none⟩) n cap)).alloc (.cells #[.int .i64 (D n).1,.int .i64 (D n).2] 148))):=by
  obtain⟨p1,p2⟩:=take_out hmp hpr hgr hh hl (kp_refl _ _ W) (fun q=>q);have q:=wt_lt p1;exact⟨wt_alloc p1 _,p2.1.alloc (by omega) _,fun q=>(Below.heap_alloc _ _ r (Nat.lt_of_lt_of_le q p2.1.size)).trans (p2.2 q)⟩
 have hn1:(n:Int)<(n:Int)+1:=by omega
 have hn2:((n+1:Nat):Int)=(n:Int)+1:=by omega
 have hn3:IntKind.i64.wrap ((n:Int)+1-1)=(n:Int):=by rw [IntKind.wrap_i64];omega
 have hn4:(n:Int)≤(cap:Int):=by omega
 clear hh hl;generalize D n=x at d0 d1 HP ⊢;obtain⟨xn,xr⟩:=x;dsimp only at d0 d1 HP ⊢;go_enter Tryz.func235,Tryz.ntmps235
 go_wp2;go_ret;exact⟨rfl,HP.out.1,HP.out.2⟩
end Fw
end
section
namespace Fw
theorem ltL_ord:Hp.Ord ltL where
 asym:=fun a b h=>by
  unfold ltL at *;split at h
  ·rename_i e;rw [if_pos e.symm];rw [decide_eq_true_eq] at h;rw [decide_eq_false_iff_not];omega
  ·rename_i e;rw [if_neg (fun q=>e q.symm)];rw [decide_eq_true_eq] at h;rw [decide_eq_false_iff_not];omega
 ntr:=fun a b c h1 h2=>by
  unfold ltL at *;split at h1 <;> split at h2 <;> split <;> rw [decide_eq_false_iff_not] at*<;> omega
theorem ltL_no{a b:Int × Int}(h:ltL a b=false):a.2≤b.2∧(a.2=b.2→b.1≤a.1):=by
 unfold ltL at h;split at h
 ·rw [decide_eq_false_iff_not] at h;omega
 ·rw [decide_eq_false_iff_not] at h;omega
def bx(x:Int × Int):Value:=.iface 148 (.agg #[.int .i64 x.1,.int .i64 x.2])
theorem heaps(m0 r hp:Nat)(Q:World→Prop)(hQ:∀W W',Q W→Kp m0 r W W'→Q W'):Hp.Heaps ltL hp 1048576 (fun n W D=>Wt m0 r hp n W D∧Q W) where
 keep := fun n hn => {
   less := fun W D i j ⟨⟨h0, g, cap, hh, hl, hr⟩, hq⟩ hi hj => ⟨_,cell_of hh,(less g cap n D i j hi hj W hl.cells).mono fun e w' ⟨he,m,hw⟩=>by
     subst hw;exact⟨he,⟨h0,g,cap,hh,⟨hl.own⟩,hr⟩,hQ _ _ hq (kp_drewN _ _ _ _)⟩⟩
   swap := fun W D i j ⟨⟨h0, g, cap, hh, hl, hr⟩, hq⟩ hi hj => ⟨_,cell_of hh,(swap g cap n D i j hi hj W hl.cells (fun k _=>World.ownsRow.frozenAt hl.own k)).mono fun e w' ⟨he,m,hw⟩=>by
     subst hw;obtain⟨hne,hmg⟩:=lead_ne hh hl;have l2:=(hl.put i (D j)).put j (D i);rw [swap_puts] at l2;have hb:Below m0 W (putL (putL W g i (D j)) g j (D i)):=by
       unfold putL;exact((((Below.refl m0 W).setCell (p:=⟨g,i*2,none⟩) hmg _).setCell (p:=⟨g,i*2+1,none⟩) hmg _).setCell (p:=⟨g,j*2,none⟩) hmg _).setCell (p:=⟨g,j*2+1,none⟩) hmg _
     have ho:∀b,b≠g→(putL (putL W g i (D j)) g j (D i)).heap[b]? = W.heap[b]?:=fun b hb=>by
       unfold putL;rw [Below.heap_setCell _ ⟨g,j*2+1,none⟩ _ b hb,Below.heap_setCell _ ⟨g,j*2,none⟩ _ b hb,Below.heap_setCell _ ⟨g,i*2+1,none⟩ _ b hb,Below.heap_setCell _ ⟨g,i*2,none⟩ _ b hb]
     have hk:Kp m0 r W ((putL (putL W g i (D j)) g j (D i)).drewN m):=⟨⟨hb.os,hb.tape,hb.output,hb.size,hb.block⟩,fun _=>ho r (fun e=>hr e.symm)⟩
     refine⟨he,⟨h0,g,cap,(ho hp (fun e=>hne e.symm)).trans hh,⟨l2.own⟩,hr⟩,hQ _ _ hq hk⟩⟩ }
 len := fun n W D hn ⟨⟨h0, g, cap, hh, hl, hr⟩, hq⟩ => ⟨_,cell_of hh,(len _ cap n W).mono fun e w' ⟨he,hw⟩=>by
   subst hw;exact⟨he,⟨h0,g,cap,hh,hl,hr⟩,hq⟩⟩
theorem pushes(m0 r hp:Nat)(Q:World→Prop)(hr:∀W,Q W→r<m0∨∃cs t fz,t≠148∧W.heap[r]? = some (.cells cs t fz))(hQ:∀W W',Q W→Kp m0 r W W'→Q W'):Hp.Pushes hp 1048576 (fun n W D=>Wt m0 r hp n W D∧Q W) bx:=
 fun n W D x hn ⟨h,hq⟩=>(push m0 r hp n D x W (hr W hq) hn h).mono fun e w' ⟨he,hw,hb⟩=>⟨he,hw,hQ _ _ hq hb⟩
theorem pops(m0 r hp:Nat)(Q:World→Prop)(hQ:∀W W',Q W→Kp m0 r W W'→Q W'):Hp.Pops hp 1048576 (fun n W D=>Wt m0 r hp n W D∧Q W) bx:=
 fun n W D hn ⟨h,hq⟩=>(pop m0 r hp n D W hn h).mono fun e w' ⟨he,hw,hb⟩=>⟨he,hw,hQ _ _ hq hb⟩
theorem wt_far{m0 r r' hp n:Nat}{W:World}{D:Nat→Int × Int}(h:Wt m0 r hp n W D)(hr:W.heap.size≤r'):Wt m0 r' hp n W D:=by
 obtain⟨⟨h0,_⟩,g,cap,hh,hl,_⟩:=h;have h1:=(Array.getElem?_eq_some_iff.1 hh).1;have h2:=(World.ownsRow.lt hl.own g rfl).2;exact⟨⟨h0,by omega⟩,g,cap,hh,hl,by omega⟩
theorem wt_set{m0 r hp n b i:Nat}{W:World}{D:Nat→Int × Int}(h:Wt m0 r hp n W D)(u:Value)(hb:b=r):Wt m0 r hp n (W.setCell ⟨b,i,none⟩ u) D:=by
 obtain⟨⟨h0,h1⟩,g,cap,hh,hl,h2⟩:=h;refine⟨⟨h0,h1⟩,g,cap,(Below.heap_setCell W ⟨b,i,none⟩ u hp (by simp;omega)).trans hh,⟨?_⟩,h2⟩;obtain⟨q1,⟨hv,_⟩ | ⟨g',cap',cur,hv,hb',hg,rest⟩⟩:=hl.own
 ·cases hv
 ·injection hv with ha hn hcc;injection ha with ha;injection ha with ha;subst ha hcc;exact⟨q1,.inr ⟨g,cap,cur,rfl,hb',(Below.heap_setCell W ⟨b,i,none⟩ u g (by simp;omega)).trans hg,rest⟩⟩
theorem wt_near{m0 r r' hp n:Nat}{W:World}{D:Nat→Int × Int}(h:Wt m0 r hp n W D)(hr:r'<m0):Wt m0 r' hp n W D:=by
 obtain⟨⟨h0,_⟩,g,cap,hh,hl,_⟩:=h;have h2:=(World.ownsRow.lt hl.own g rfl).1;exact⟨⟨h0,by omega⟩,g,cap,hh,hl,by omega⟩
theorem next(m0 r hp n:Nat)(hr:r<m0)(Q:World→Prop)(hQ:∀W W',Q W→Below m0 W W'→Q W')(D:Nat→Int × Int)(W:World)(hn:n+1≤1048576)(h:Wt m0 r hp (n+1) W D)(hq:Q W) :
   Calls Tryz.prog 119 #[.pointer (some ⟨hp,0,none⟩)] W fun e w'=>e=.returned (.agg #[.int .i64 (D 0).1,.int .i64 (D 0).2])∧Wt m0 r hp n w' (Hp.popT ltL n D)∧Q w':=by
 have hlt:=wt_lt h;have HN:Hid ((W.alloc (.cells #[.int .i64 0,.int .i64 0] 148)).heap[W.heap.size]? = some (.cells #[.int .i64 0,.int .i64 0] 148 (0,0))):=by
   show(W.heap.push _)[W.heap.size]? = _;rw [Array.getElem?_push_size]
 have HW:Hid (Wt m0 W.heap.size hp (n+1) (W.alloc (.cells #[.int .i64 0,.int .i64 0] 148)) D):=wt_alloc (wt_far h (Nat.le_refl _)) _;have HB:Hid (Q (W.alloc (.cells #[.int .i64 0,.int .i64 0] 148))):=hQ _ _ hq ((Below.refl m0 W).alloc (by omega) _);have HP : Hid (∀V:World,Wt m0 W.heap.size hp (n+1) V D→Q V→V.heap[W.heap.size]? = some (.cells #[.int .i64 0,.int .i64 0] 148 (0,0)) →
     Calls Tryz.prog 144 #[.iface 145 (.pointer (some ⟨hp,0,none⟩))] V fun e w'=>e=.returned (bx (D 0))∧Wt m0 W.heap.size hp n w' (Hp.popT ltL n D)∧Q w'∧w'.heap[W.heap.size]? = some (.cells #[.int .i64 0,.int .i64 0] 148 (0,0))):=fun V h1 h2 h3=>by
   have hQ':∀A B:World,(Q A∧A.heap[W.heap.size]? = some (.cells #[.int .i64 0,.int .i64 0] 148 (0,0)))→Kp m0 W.heap.size A B→(Q B∧B.heap[W.heap.size]? = some (.cells #[.int .i64 0,.int .i64 0] 148 (0,0))):=fun A B ⟨q1,q2⟩ k=>⟨hQ A B q1 k.1,(k.2 (Array.getElem?_eq_some_iff.1 q2).1).trans q2⟩
   exact(Hp.heapPop ltL hp 1048576 _ bx (heaps m0 W.heap.size hp _ hQ') (pops m0 W.heap.size hp _ hQ') (Nat.le_refl _) n hn D V ⟨h1,h2,h3⟩).mono fun e w' ⟨q0,q1,q2,q3⟩=>⟨q0,q1,q2,q3⟩
 have HQ:Hid (∀A B:World,Q A→Below m0 A B→Q B):=hQ;have hms:m0≤W.heap.size:=by omega
 have hta:=asL;unfold bx at HP;generalize (D 0).1=x0 at HP ⊢;generalize (D 0).2=x1 at HP ⊢;clear h hq hQ hlt;go_enter Tryz.func119,Tryz.ntmps119
 go_wp2_with fail
 refine(HP.out _ HW.out HB.out HN.out).mono ?_;rintro e w1 ⟨rfl,hw1,hq1,hb1⟩;have HW1:Hid (Wt m0 W.heap.size hp n w1 (Hp.popT ltL n D)):=hw1;have HQ1:Hid (Q w1):=hq1;have d0:w1.cell? ⟨W.heap.size,0,none⟩=some (.int .i64 0):=by simp [World.cell?,hb1]
 have d1:w1.cell? ⟨W.heap.size,1,none⟩=some (.int .i64 0):=by simp [World.cell?,hb1]
 have f0:w1.frozen? ⟨W.heap.size,0,none⟩=false:=by simp [World.frozen?,hb1]
 have f1:w1.frozen? ⟨W.heap.size,1,none⟩=false:=by simp [World.frozen?,hb1]
 clear HP HW HB HN hw1 hq1 hb1;generalize W.heap.size=b at *;go_wp2;refine bodyPost_ret (v:=.agg #[.int .i64 x0,.int .i64 x1]) (by simp [results,Tryz.f119,go_sem,d0,d1]) rfl ?_;exact⟨rfl,wt_near (wt_set (wt_set HW1.out _ rfl) _ rfl) hr,HQ.out _ _ HQ1.out (((Below.refl m0 w1).setCell (p:=⟨b,0,none⟩) hms _).setCell (p:=⟨b,1,none⟩) hms _)⟩
end Fw
end
end Go.Proofs.YtbkeldfbllhlbaaGreat
