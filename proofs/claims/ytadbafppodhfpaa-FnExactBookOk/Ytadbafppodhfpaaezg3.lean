/-
 What the laws on books answer where the program's functions answer as they should: FnRead, true at every code.
-/
import Derived.Test.Ytadbafppodhfpaaezg2
import Derived.BigRegion
set_option linter.unusedVariables false
set_option maxRecDepth 100000
set_option maxHeartbeats 12800000
namespace Go.Proofs.Ytadbafppodhfpaa
open Go.RowKit
section
namespace De
open Cur (At)
open Kn (B grown_put code_lt lit_str)
structure ZeD(b:Nat)(w:World):Prop where
 lt:b<w.heap.size
 r0:w.cell? ⟨b,0,none⟩=some (.int .i64 0)
 r1:w.cell? ⟨b,1,none⟩=some (.string ⟨#[]⟩)
 r2:w.cell? ⟨b,2,none⟩=some (.int .i64 0)
 r3:w.cell? ⟨b,3,none⟩=some (.int .i64 0)
 rf:∀j,w.frozen? ⟨b,j,none⟩=false
theorem zeD_new(w:World)(t:TypeId):ZeD w.heap.size (w.alloc (.cells #[.int .i64 0,.string ⟨#[]⟩,.int .i64 0,.int .i64 0] t)):=by
 obtain⟨a,b,c,d,e,f⟩:=zd_new w t;exact⟨a,b,c,d,e,f⟩
theorem ZeD.below{b:Nat}{w w':World}(z:ZeD b w)(hb:Below w.heap.size w w'):ZeD b w' where
 lt:=Nat.lt_of_lt_of_le z.lt hb.size
 r0:=(hb.cell (p:=⟨b,0,none⟩) z.lt).trans z.r0
 r1:=(hb.cell (p:=⟨b,1,none⟩) z.lt).trans z.r1
 r2:=(hb.cell (p:=⟨b,2,none⟩) z.lt).trans z.r2
 r3:=(hb.cell (p:=⟨b,3,none⟩) z.lt).trans z.r3
 rf:=fun j=>(hb.frozen (p:=⟨b,j,none⟩) z.lt).trans (z.rf j)
theorem ZeD.grown{c b:Nat}{w w':World}(z:ZeD b w)(hg:w.grownBy w' (some c))(hn:b≠c):ZeD b w' where
 lt:=Nat.lt_of_lt_of_le z.lt hg.size
 r0:=Draw.kept_cell hg hn z.r0
 r1:=Draw.kept_cell hg hn z.r1
 r2:=Draw.kept_cell hg hn z.r2
 r3:=Draw.kept_cell hg hn z.r3
 rf:=fun j=>(hg.frozen_far ⟨b,j,none⟩ z.lt (by simpa using hn)).trans (z.rf j)
structure StD(c b0 kb:Nat)(a:Option Addr)(len cap:Nat)(w0 w:World)(k:Int)(s:ByteArray)(v n:Int):Prop where
 at':At c a len cap w
 t:TwoD b0 kb w k s v n
 n1:b0≠c
 n2:kb≠c
 l1:w0.heap.size≤b0
 l2:w0.heap.size≤kb
 cb:len=0∨∃b off,a=some ⟨b,off,none⟩∧b<w0.heap.size
 g:w0.grownBy w (some c)
section
variable {c b0 kb:Nat} {a:Option Addr} {len cap:Nat} {w0 w w':World} {k:Int} {s:ByteArray} {v n:Int}
theorem StD.grown(t:StD c b0 kb a len cap w0 w k s v n)(hg:w.grownBy w' (some c))(hA:At c a len cap w'):StD c b0 kb a len cap w0 w' k s v n where
 at':=hA
 t := ⟨t.t.bx,Nat.lt_of_lt_of_le t.t.lt hg.size,Draw.kept_cell hg t.n1 t.t.r0,Draw.kept_cell hg t.n1 t.t.r1,Draw.kept_cell hg t.n1 t.t.r2,Draw.kept_cell hg t.n1 t.t.r3,
   fun j=>(hg.frozen_far ⟨b0,j,none⟩ (Nat.lt_trans t.t.bx t.t.lt) (by simpa using t.n1)).trans (t.t.rf j),
   Draw.kept_cell hg t.n2 t.t.k0,Draw.kept_cell hg t.n2 t.t.k1,Draw.kept_cell hg t.n2 t.t.k2,Draw.kept_cell hg t.n2 t.t.k3,
   fun j=>(hg.frozen_far ⟨kb,j,none⟩ t.t.lt (by simpa using t.n2)).trans (t.t.kf j)⟩
 n1:=t.n1
 n2:=t.n2
 l1:=t.l1
 l2:=t.l2
 cb:=t.cb
 g:=Cur.grownBy_trans t.g hg
theorem StD.put(t:StD c b0 kb a len cap w0 w k s v n){k' v' n':Int}{s':ByteArray}(j:Nat)(u:Value)(h:TwoD b0 kb (w.setCell ⟨kb,j,none⟩ u) k' s' v' n'):StD c b0 kb a len cap w0 (w.setCell ⟨kb,j,none⟩ u) k' s' v' n':=
 ⟨Kn.At.put t.at' t.n2 t.cb t.l2 j _,h,t.n1,t.n2,t.l1,t.l2,t.cb,grown_put t.g t.l2 j _⟩
theorem StD.final(t:StD c b0 kb a len cap w0 w k s v n)(v0 v1 v2 v3:Value) :
  At c a len cap ((((w.setCell ⟨b0,0,none⟩ v0).setCell ⟨b0,1,none⟩ v1).setCell ⟨b0,2,none⟩ v2).setCell ⟨b0,3,none⟩ v3)∧w0.grownBy ((((w.setCell ⟨b0,0,none⟩ v0).setCell ⟨b0,1,none⟩ v1).setCell ⟨b0,2,none⟩ v2).setCell ⟨b0,3,none⟩ v3) (some c):=
 ⟨Kn.At.put (Kn.At.put (Kn.At.put (Kn.At.put t.at' t.n1 t.cb t.l1 _ _) t.n1 t.cb t.l1 _ _) t.n1 t.cb t.l1 _ _) t.n1 t.cb t.l1 _ _,grown_put (grown_put (grown_put (grown_put t.g t.l1 _ _) t.l1 _ _) t.l1 _ _) t.l1 _ _⟩
end
def DrawPost(c:Nat)(a:Option Addr)(len cap:Nat)(w:World)(e:Ending)(w':World):Prop:=∃(k:Int) (s:ByteArray) (v n:Int),e=.returned (.agg #[.int .i64 k,.string s,.int .i64 v,.int .i64 n])∧s.size≤4∧At c a len cap w'∧w.grownBy w' (some c)
theorem l1From(c:Nat)(a:Option Addr)(len cap:Nat)(lo hi:Int)(w:World)(hl:len≤4096)(h0:-10≤lo)(h1:lo≤hi)(h2:hi≤100)(hc:At c a len cap w) :
  Calls Try.prog 43 #[.pointer (some ⟨c,0,none⟩),.int .i64 lo,.int .i64 hi] w fun e w'=>∃x:Int,e=.returned (.int .i64 x)∧At c a len cap w'∧w.grownBy w' (some c):=by
 have hw1:IntKind.i64.wrap (hi-lo)=hi-lo:=by rw [IntKind.wrap_i64];omega
 have hw2:IntKind.i64.wrap (hi-lo+1)=hi-lo+1:=by rw [IntKind.wrap_i64];omega
 go_enter Try.func43,Try.ntmps43
 go_wp2_with fail
 refine(Cur.below c a len cap _ _ hl (by omega) hc).mono ?_;rintro e w1 ⟨x,rfl,hx0,hx1,hA1,hG1⟩;have hx2:=hx1 (by omega);go_wp2;go_ret;exact⟨_,rfl,hA1,hG1⟩
theorem l16Draw(c:Nat)(a:Option Addr)(len cap:Nat)(w:World)(hl:len≤4096)(hc:At c a len cap w) :
  Calls Try.prog 26 #[.pointer (some ⟨c,0,none⟩)] w (DrawPost c a len cap w):=by
 have hclt:=hc.lt;have hcode:=code_lt hc;have P0:Hid (w.grownBy (w.alloc (.cells #[.int .i64 0,.string ⟨#[]⟩,.int .i64 0,.int .i64 0] 26)) (some c)∧ZeD w.heap.size (w.alloc (.cells #[.int .i64 0,.string ⟨#[]⟩,.int .i64 0,.int .i64 0] 26))∧At c a len cap (w.alloc (.cells #[.int .i64 0,.string ⟨#[]⟩,.int .i64 0,.int .i64 0] 26))):=⟨World.grownBy_alloc _ _ _,zeD_new w _,Draw.at_alloc hc _⟩
 go_enter Try.func26,Try.ntmps26
 go_wp2_with fail
 generalize w.alloc (.cells #[.int .i64 0,.string ⟨#[]⟩,.int .i64 0,.int .i64 0] 26)=w0 at P0 ⊢;obtain⟨G0,Z0,A0⟩:=P0;refine(Cur.below c a len cap 4 _ hl (by omega) A0).mono ?_;rintro e w1 ⟨x,rfl,hx0,hx1,A1,g1⟩;have hx2:=hx1 (by omega);have G1:=Cur.grownBy_trans G0 g1;have Z1:=Z0.grown g1 (by omega);clear g1 A0 Z0 G0 hx1;go_wp2_with fail
 refine(Cur.below c a len cap 4 _ hl (by omega) (Draw.at_alloc A1 _)).mono ?_;rintro e w2 ⟨y,rfl,hy0,hy1,A2,g2⟩;have hy2:=hy1 (by omega);obtain⟨s,hs,hss⟩:=lit_str (l:=[⟨#[97]⟩,⟨#[98]⟩,⟨#[99]⟩,⟨#[100,100]⟩]) A1.lt g2 y.toNat (by simp;omega) 4 (by decide);have G2:=Cur.grownBy_trans (Cur.grownBy_trans G1 (World.grownBy_alloc _ _ _)) g2;have Z2:=(Z1.grown (World.grownBy_alloc _ _ (some c)) (by omega)).grown g2 (by omega);clear g2 A1 Z1 G1 hy1;have S3:Hid (StD c w.heap.size w2.heap.size a len cap w (w2.alloc (.cells #[.int .i64 (1+x),.string s,.int .i64 0,.int .i64 0] 26)) (1+x) s 0 0):=by
  have ga:=World.grownBy_alloc w2 (.cells #[.int .i64 (1+x),.string s,.int .i64 0,.int .i64 0] 26) (some c);have Z3:=Z2.grown ga (by omega);exact⟨Draw.at_alloc A2 _,⟨Z2.lt,by simp,Z3.r0,Z3.r1,Z3.r2,Z3.r3,Z3.rf,by simp,by simp,by simp,by simp,fun j=>by simp⟩,by omega,by have:=A2.lt;omega,Nat.le_refl _,G2.size,hcode,Cur.grownBy_trans G2 ga⟩
 clear A2 Z2 G2;go_upto_region 2 with fail
 generalize w2.alloc (.cells #[.int .i64 (1+x),.string s,.int .i64 0,.int .i64 0] 26)=w3 at S3 ⊢;generalize w2.heap.size=kb at S3 ⊢;have S:=S3.out;clear S3 hs;generalize w1.heap.size=b1 at *;obtain⟨kn,hkn⟩:∃kn,1+x=kn:=⟨_,rfl⟩
 rw [hkn] at S ⊢;clear hkn;have k0:=S.t.k0;rcases(show kn=2∨kn=4∨(kn≠2∧kn≠4) by omega) with rfl | rfl | ⟨hx1,hx3⟩
 case' inl=>
  go_upto_region 6 with fail
  have SS:Hid (∃k v n,StD c w.heap.size kb a len cap w w3 k s v n):=⟨_,_,_,S⟩
  clear S k0;generalize hW:w3=W at SS ⊢;clear hW
 case' inr.inl=>
  go_wp2_with fail
  refine(Cur.below c a len cap 4 _ hl (by omega) S.at').mono ?_;rintro e w25 ⟨z2,rfl,_,_,A5,g5⟩;replace S:=S.grown g5 A5;clear A5 g5 k0;have kk:=S.t.k2;have ff:=S.t.kf 2;have HP:Hid (StD c w.heap.size kb a len cap w (_) 4 s z2 0):=S.put 2 _ (S.t.set2 z2);clear S;go_upto_region 4 with fail
  generalize World.setCell _ _ _=w4 at HP ⊢;clear kk ff;have S:=HP.out;clear HP;have k0:=S.t.k0;go_wp2_with fail
  refine(Cur.below c a len cap 4 _ hl (by omega) S.at').mono ?_;rintro e w35 ⟨z3,rfl,_,_,A5,g5⟩;replace S:=S.grown g5 A5;clear A5 g5 k0;have kk:=S.t.k3;have ff:=S.t.kf 3;have HP:Hid (StD c w.heap.size kb a len cap w (_) 4 s z2 z3):=S.put 3 _ (S.t.set3 z3);clear S;go_upto_region 6 with fail
  generalize World.setCell _ _ _=W at HP ⊢;clear kk ff;have S:=HP.out;clear HP;have k0:=S.t.k0;have SS:Hid (∃k v n,StD c w.heap.size kb a len cap w W k s v n):=⟨_,_,_,S⟩
  clear S k0
 case' inr.inr=>
  have hk2:(kn != 2)=true:=by simpa using hx1
  have hk4:(kn == 4)=false:=by simpa using hx3
  go_wp2_with fail
  refine(Cur.below c a len cap 4 _ hl (by omega) S.at').mono ?_;rintro e w25 ⟨z2,rfl,_,_,A5,g5⟩;replace S:=S.grown g5 A5;clear A5 g5 k0;have kk:=S.t.k2;have ff:=S.t.kf 2;have HP:Hid (StD c w.heap.size kb a len cap w (_) kn s z2 0):=S.put 2 _ (S.t.set2 z2);clear S;go_upto_region 4 with fail
  generalize World.setCell _ _ _=w4 at HP ⊢;clear kk ff;have S:=HP.out;clear HP;have k0:=S.t.k0;go_upto_region 6 with fail
  generalize hW:w4=W at S ⊢;clear hW;have SS:Hid (∃k v n,StD c w.heap.size kb a len cap w W k s v n):=⟨_,_,_,S⟩
  clear S k0 hk2 hk4
 all_goals
  obtain⟨k,v,n,S⟩:=SS.out;clear SS;go_wp2_with fail
  refine(Cur.once c a len cap 8 _ hl (by omega) S.at').mono ?_;rintro e w7 ⟨b,rfl,A7,g7⟩;replace S:=S.grown g7 A7;clear A7 g7
  cases b
  ·obtain⟨_,_,r0,r1,r2,r3,rf,k0,k1,k2,k3,_⟩:=S.t;have rf0:=rf 0;have rf1:=rf 1;have rf2:=rf 2;have rf3:=rf 3;have HQ:Hid (_):=put4D r0 r1 r2 r3 (.int .i64 k) (.string s) (.int .i64 v) (.int .i64 n);have HF:Hid (_):=S.final (.int .i64 k) (.string s) (.int .i64 v) (.int .i64 n);clear rf S;go_wp2;obtain⟨q0,q1,q2,q3⟩:=HQ.out;exact bodyPost_ret (v:=.agg #[.int .i64 k,.string s,.int .i64 v,.int .i64 n]) (by simp [results,Try.results26,go_sem,q0,q1,q2,q3]) rfl ⟨k,s,v,n,rfl,hss,HF.out.1,HF.out.2⟩
  ·go_wp2_with fail
   refine(Cur.below c a len cap 4 _ hl (by omega) S.at').mono ?_;rintro e w8 ⟨y8,rfl,hy80,hy81,A8,g8⟩;replace S:=S.grown g8 A8;have hy82:=hy81 (by omega);clear A8 g8 hy81;rcases(show y8=0∨y8=1∨y8=2∨y8=3 by omega) with rfl | rfl | rfl | rfl
   ·go_wp2_with fail
    refine(l1From c a len cap (-1) 6 _ hl (by omega) (by omega) (by omega) S.at').mono ?_;rintro e w9 ⟨z,rfl,A9,g9⟩;replace S:=S.grown g9 A9;clear A9 g9;have kk:=S.t.k0;have ff:=S.t.kf 0;have HP:Hid (StD c w.heap.size kb a len cap w (_) z s v n):=S.put 0 _ (S.t.set0 z);clear S;go_upto_region 16 with fail
    generalize World.setCell _ _ _=W9 at HP ⊢;clear kk ff;have S:=HP.out;clear HP;obtain⟨_,_,r0,r1,r2,r3,rf,k0,k1,k2,k3,_⟩:=S.t;have rf0:=rf 0;have rf1:=rf 1;have rf2:=rf 2;have rf3:=rf 3;have HQ:Hid (_):=put4D r0 r1 r2 r3 (.int .i64 z) (.string s) (.int .i64 v) (.int .i64 n);have HF:Hid (_):=S.final (.int .i64 z) (.string s) (.int .i64 v) (.int .i64 n);clear rf S;go_wp2;obtain⟨q0,q1,q2,q3⟩:=HQ.out;exact bodyPost_ret (v:=.agg #[.int .i64 z,.string s,.int .i64 v,.int .i64 n]) (by simp [results,Try.results26,go_sem,q0,q1,q2,q3]) rfl ⟨z,s,v,n,rfl,hss,HF.out.1,HF.out.2⟩
   ·go_wp2_with fail
    have A8':=Draw.at_alloc S.at' (.cells #[.string ⟨#[]⟩,.string ⟨#[65]⟩,.string ⟨#[97,98,99,100]⟩] 9);refine(Cur.below c a len cap 3 _ hl (by omega) A8').mono ?_;rintro e w9 ⟨x9,rfl,hx90,hx91,A9,g9⟩;have hx92:=hx91 (by omega);obtain⟨z,hz,hzs⟩:=lit_str (l:=[⟨#[]⟩,⟨#[65]⟩,⟨#[97,98,99,100]⟩]) S.at'.lt g9 x9.toNat (by simp;omega) 4 (by decide);replace S:=(S.grown (World.grownBy_alloc _ _ (some c)) A8').grown g9 A9;clear A8' A9 g9 hx91;have kk:=S.t.k1;have ff:=S.t.kf 1;have HP:Hid (StD c w.heap.size kb a len cap w (_) k z v n):=S.put 1 _ (S.t.set1 z);clear S;go_upto_region 16 with fail
    generalize World.setCell _ _ _=W9 at HP ⊢;clear kk ff;have S:=HP.out;clear HP;obtain⟨_,_,r0,r1,r2,r3,rf,k0,k1,k2,k3,_⟩:=S.t;have rf0:=rf 0;have rf1:=rf 1;have rf2:=rf 2;have rf3:=rf 3;have HQ:Hid (_):=put4D r0 r1 r2 r3 (.int .i64 k) (.string z) (.int .i64 v) (.int .i64 n);have HF:Hid (_):=S.final (.int .i64 k) (.string z) (.int .i64 v) (.int .i64 n);clear rf S;go_wp2;obtain⟨q0,q1,q2,q3⟩:=HQ.out;exact bodyPost_ret (v:=.agg #[.int .i64 k,.string z,.int .i64 v,.int .i64 n]) (by simp [results,Try.results26,go_sem,q0,q1,q2,q3]) rfl ⟨k,z,v,n,rfl,hzs,HF.out.1,HF.out.2⟩
   ·go_wp2_with fail
    have A8':=Draw.at_alloc S.at' (.cells #[.int .i64 (-1),.int .i64 99,.int .i64 100] 2);refine(Cur.below c a len cap 3 _ hl (by omega) A8').mono ?_;rintro e w9 ⟨x9,rfl,hx90,hx91,A9,g9⟩;have hx92:=hx91 (by omega);obtain⟨z,hz,hz0,hz1⟩:=Draw.lit_int (l:=[-1,99,100]) S.at'.lt g9 x9.toNat (by simp;omega) (by simp);replace S:=(S.grown (World.grownBy_alloc _ _ (some c)) A8').grown g9 A9;clear A8' A9 g9 hx91;have kk:=S.t.k2;have ff:=S.t.kf 2;have HP:Hid (StD c w.heap.size kb a len cap w (_) k s z n):=S.put 2 _ (S.t.set2 z);clear S;go_upto_region 16 with fail
    generalize World.setCell _ _ _=W9 at HP ⊢;clear kk ff;have S:=HP.out;clear HP;obtain⟨_,_,r0,r1,r2,r3,rf,k0,k1,k2,k3,_⟩:=S.t;have rf0:=rf 0;have rf1:=rf 1;have rf2:=rf 2;have rf3:=rf 3;have HQ:Hid (_):=put4D r0 r1 r2 r3 (.int .i64 k) (.string s) (.int .i64 z) (.int .i64 n);have HF:Hid (_):=S.final (.int .i64 k) (.string s) (.int .i64 z) (.int .i64 n);clear rf S;go_wp2;obtain⟨q0,q1,q2,q3⟩:=HQ.out;exact bodyPost_ret (v:=.agg #[.int .i64 k,.string s,.int .i64 z,.int .i64 n]) (by simp [results,Try.results26,go_sem,q0,q1,q2,q3]) rfl ⟨k,s,z,n,rfl,hss,HF.out.1,HF.out.2⟩
   ·go_wp2_with fail
    have A8':=Draw.at_alloc S.at' (.cells #[.int .i64 (-1),.int .i64 1,.int .i64 99,.int .i64 100] 2);refine(Cur.below c a len cap 4 _ hl (by omega) A8').mono ?_;rintro e w9 ⟨x9,rfl,hx90,hx91,A9,g9⟩;have hx92:=hx91 (by omega);obtain⟨z,hz,hz0,hz1⟩:=Draw.lit_int (l:=[-1,1,99,100]) S.at'.lt g9 x9.toNat (by simp;omega) (by simp);replace S:=(S.grown (World.grownBy_alloc _ _ (some c)) A8').grown g9 A9;clear A8' A9 g9 hx91;have kk:=S.t.k3;have ff:=S.t.kf 3;have HP:Hid (StD c w.heap.size kb a len cap w (_) k s v z):=S.put 3 _ (S.t.set3 z);clear S;go_upto_region 16 with fail
    generalize World.setCell _ _ _=W9 at HP ⊢;clear kk ff;have S:=HP.out;clear HP;obtain⟨_,_,r0,r1,r2,r3,rf,k0,k1,k2,k3,_⟩:=S.t;have rf0:=rf 0;have rf1:=rf 1;have rf2:=rf 2;have rf3:=rf 3;have HQ:Hid (_):=put4D r0 r1 r2 r3 (.int .i64 k) (.string s) (.int .i64 v) (.int .i64 z);have HF:Hid (_):=S.final (.int .i64 k) (.string s) (.int .i64 v) (.int .i64 z);clear rf S;go_wp2;obtain⟨q0,q1,q2,q3⟩:=HQ.out;exact bodyPost_ret (v:=.agg #[.int .i64 k,.string s,.int .i64 v,.int .i64 z]) (by simp [results,Try.results26,go_sem,q0,q1,q2,q3]) rfl ⟨k,s,v,z,rfl,hss,HF.out.1,HF.out.2⟩
theorem code_below{w w':World}{a:Option Addr}{len:Nat}(h:Cur.Code w a len)(hb:Below w.heap.size w w'):Cur.Code w' a len:=by
 rcases h with h | ⟨b,off,ha,hlt,hc⟩
 ·exact .inl h
 ·refine .inr ⟨b,off,ha,Nat.lt_of_lt_of_le hlt hb.size,fun j hj=>?_⟩;obtain⟨z,hz,hz'⟩:=hc j hj;exact⟨z,(hb.cell (p:=⟨b,off+j,none⟩) hlt).trans hz,hz'⟩
end De
namespace Bk
open Cur (At)
open De (D okD)
open Kn (code_lt)
def EnB(e:En):Prop:=e.key.size≤4∧-100000≤e.val∧e.val≤100000
theorem enB_set{L:List En}{n:Nat}{e:En}(h:∀f∈L,EnB f)(he:EnB e):∀f∈L.set n e,EnB f:=fun f hf=>by
 rcases mem_set hf with rfl | hf
 ·exact he
 ·exact h f hf
theorem enB_at{L:List En}(h:∀f∈L,EnB f){n:Nat}(hn:n<L.length):EnB (atE L n):=h _ (atE_mem L n hn)
theorem put_good{L:List En}{key:ByteArray}{v m:Int}(h:∀f∈L,EnB f)(he:EnB ⟨key,v⟩):(∀f∈(doB L ⟨1,key,v,m⟩).1,EnB f)∧(doB L ⟨1,key,v,m⟩).1.length≤L.length+1:=by
 unfold doB doC;rw [if_pos rfl]
 cases hh:hasB L key
 ·rw [if_neg (by simp)];by_cases h8:L.length=8
  ·rw [if_pos h8];exact⟨h,Nat.le_succ _⟩
  ·rw [if_neg h8];refine⟨fun f hf=>?_,by simp;have:=findN_le L key;omega⟩;simp only [List.mem_append,List.mem_singleton] at hf;rcases hf with(hf | rfl) | hf
   ·exact h f (List.mem_of_mem_take hf)
   ·exact he
   ·exact h f (List.mem_of_mem_drop hf)
 ·rw [if_pos rfl];obtain⟨hn,_⟩:=has_at hh;exact⟨enB_set h ⟨(enB_at h hn).1,he.2⟩,by simp⟩
theorem lit_all(l:List ByteArray)(j:Nat)(hj:j<l.length)(n:Nat)(hl:∀x∈l,x.size≤n):∃s:ByteArray,(∀(W:World) (t:TypeId),(W.alloc (.cells (l.map Value.string).toArray t)).cell? ⟨W.heap.size,j,none⟩=some (.string s))∧s.size≤n:=
 ⟨l[j],fun W t=>by rw [World.cell?_alloc_new];simp [hj],hl _ (List.getElem_mem hj)⟩
def DrawB(c:Nat)(a:Option Addr)(len cap:Nat)(w:World)(e:Ending)(w':World):Prop:=∃g cb L,e=.returned (.slice (some ⟨g,0,none⟩) (L:List En).length cb)∧L.length≤10∧(∀f∈L,EnB f)∧OwE w.heap.size w' g cb L∧At c a len cap w'∧w.grownBy w' (some c)
structure BkSt(c:Nat)(a:Option Addr)(len cap:Nat)(w wr:World)(g cb:Nat)(L:List En):Prop where
 own:OwE w.heap.size wr g cb L
 at':At c a len cap wr
 gr:w.grownBy wr (some c)
 lt:c<w.heap.size
 code:len=0∨∃b off,a=some ⟨b,off,none⟩∧b<w.heap.size
section
variable {c:Nat} {a:Option Addr} {len cap:Nat} {w wr V:World} {g cb:Nat} {L:List En}
theorem BkSt.grown(h:BkSt c a len cap w wr g cb L)(hg:wr.grownBy V (some c))(hA:At c a len cap V):BkSt c a len cap w V g cb L:=⟨h.own.grown hg h.lt,hA,Cur.grownBy_trans h.gr hg,h.lt,h.code⟩
theorem BkSt.below(h:BkSt c a len cap w wr g cb L)(hb:Below wr.heap.size wr V):BkSt c a len cap w V g cb L:=⟨h.own.below hb,h.at'.below hb,Cur.grownBy_trans h.gr (grown_of_below hb _),h.lt,h.code⟩
theorem BkSt.alloc(h:BkSt c a len cap w wr g cb L)(o:Obj):BkSt c a len cap w (wr.alloc o) g cb L:=h.below ((Below.refl _ _).alloc (Nat.le_refl _) o)
theorem BkSt.drew(h:BkSt c a len cap w wr g cb L):BkSt c a len cap w wr.drew g cb L:=h.below (Below.refl _ _).drew
theorem BkSt.next{g' cb':Nat}{M:List En}(h:BkSt c a len cap w wr g cb L)(ho:OwE w.heap.size V g' cb' M)(hg:wr.grownBy V (some g)):BkSt c a len cap w V g' cb' M:=by
 have hb:Below w.heap.size wr V:=(Below.refl _ _).grown hg h.gr.size (fun j hj=>by have:=h.own.shape.2.2.1;simp at hj;omega);exact⟨ho,Bend.At.below' h.at' hb h.lt h.code (Nat.le_refl _),Bend.grown_far h.gr hb (Nat.le_refl _),h.lt,h.code⟩
theorem BkSt.size(h:BkSt c a len cap w wr g cb L):w.heap.size≤wr.heap.size:=h.gr.size
end
theorem bkSt_new{c:Nat}{a:Option Addr}{len cap:Nat}{w:World}(hc:At c a len cap w):BkSt c a len cap w (w.alloc (.cells #[] 38)) w.heap.size 0 []:=
 ⟨owE_new w,Draw.at_alloc hc _,World.grownBy_alloc _ _ _,hc.lt,code_lt hc⟩
theorem ret_sl{x:Option Addr}{n n' c:Nat}(h:n=n'):Ending.returned (.slice x n c)=.returned (.slice x n' c):=by rw [h]
theorem at_dst{ops:Array Oper}{o:Oper}{a:Act}{w:World}{K:Act→World→Prop}{Q:Exit→Act→World→Prop}{E:Prop}(n:Nat)(h:o.dst=some n)
  (hk:if Region.wanted o (yielded ops a.tmps)=true then Oper.wp Try.prog o a w K Q else E):if Region.wanted o (yielded ops a.tmps)=true then Oper.wp Try.prog o a w K Q else E:=hk
theorem l17Draw(c:Nat)(a:Option Addr)(len cap:Nat)(w:World)(hl:len≤4096)(hc:At c a len cap w) :
   Calls Try.prog 25 #[.pointer (some ⟨c,0,none⟩)] w (DrawB c a len cap w):=by
 have H0:=bkSt_new hc;go_enter Try.func25,Try.ntmps25
 go_upto_region 2 with fail
 generalize hw0:w.alloc (.cells #[] 38)=w0 at H0 ⊢;clear hw0;go_wp2_with fail
 refine(Cur.below c a len cap 6 _ hl (by omega) H0.at').mono ?_;rintro e w1 ⟨n,rfl,hn0,hn1,A1,g1⟩;have hn2:=hn1 (by omega);have HS1:Hid (BkSt c a len cap w w1 w.heap.size 0 []):=H0.grown g1 A1;clear H0 A1 g1 hn1;go_wp2_with fail
 go_loopw [3,4] (fun bv nv wr=>∃(k g cb:Nat) (L:List En),nv=.int .i64 (k:Int)∧bv=.slice (some ⟨g,0,none⟩) L.length cb∧L.length+k≤5∧Hid (∀f∈L,EnB f)∧Hid (BkSt c a len cap w wr g cb L)) (fun _ nv _=>(intOf nv).toNat)
 case atStart=>exact⟨n.toNat,w.heap.size,0,[],by congr 1;omega,rfl,by simp;omega,fun f hf=>by simp at hf,HS1⟩
 case round=>
   clear HS1;obtain⟨k,g,cb,L,rfl,rfl,hk,HB,HS⟩:=hrel;by_cases hp:0<k
   · have hp':(0:Int)<(k:Int):=by omega
     have HLV:Hid (∀f∈L,-100000≤f.val∧f.val≤100000):=fun f hf=>(HB.out f hf).2
     have hll:L.length≤100:=by omega
     have HST:Hid (∀o,BkSt c a len cap w (wr.alloc o) g cb L):=fun o=>HS.out.alloc o
     go_wp2_with fail
     have HLT:Hid (∀j:Nat,j<5→∃s:ByteArray,(∀W:World,(W.alloc (.cells #[.string ⟨#[97]⟩,.string ⟨#[98]⟩,.string ⟨#[99]⟩,.string ⟨#[100,100]⟩,.string ⟨#[101]⟩] 9)).cell? ⟨W.heap.size,j,none⟩=some (.string s))∧s.size≤4):=fun j hj=>by
       obtain⟨s,h1,h2⟩:=lit_all [⟨#[97]⟩,⟨#[98]⟩,⟨#[99]⟩,⟨#[100,100]⟩,⟨#[101]⟩] j hj 4 (by decide);exact⟨s,fun W=>h1 W _,h2⟩
     have hcn:c≠wr.heap.size:=by have:=HS.out.at'.lt;omega
     have HA17:Hid (At c a len cap wr.drew∧At c a len cap (wr.alloc (.cells #[.string ⟨#[97]⟩,.string ⟨#[98]⟩,.string ⟨#[99]⟩,.string ⟨#[100,100]⟩,.string ⟨#[101]⟩] 9)).drew):=⟨HS.out.drew.at',(HST.out _).drew.at'⟩
     have HG17:Hid (∀V,(wr.drew.grownBy V (some c)∨(wr.alloc (.cells #[.string ⟨#[97]⟩,.string ⟨#[98]⟩,.string ⟨#[99]⟩,.string ⟨#[100,100]⟩,.string ⟨#[101]⟩] 9)).drew.grownBy V (some c))→At c a len cap V→BkSt c a len cap w V g cb L):=fun V h hA=>by
       rcases h with h | h
       · exact HS.out.drew.grown h hA
       · exact(HST.out _).drew.grown h hA
     have HK17:Hid (∀(V:World) (j:Nat) (s:ByteArray),(wr.alloc (.cells #[.string ⟨#[97]⟩,.string ⟨#[98]⟩,.string ⟨#[99]⟩,.string ⟨#[100,100]⟩,.string ⟨#[101]⟩] 9)).drew.grownBy V (some c)→(wr.alloc (.cells #[.string ⟨#[97]⟩,.string ⟨#[98]⟩,.string ⟨#[99]⟩,.string ⟨#[100,100]⟩,.string ⟨#[101]⟩] 9)).cell? ⟨wr.heap.size,j,none⟩=some (.string s)→V.cell? ⟨wr.heap.size,j,none⟩=some (.string s)):=fun V j s h hs=>Draw.kept_cell h hcn.symm hs
     go_region_law (first
       | (refine at_dst 17 rfl ?_
          rw [if_pos (by simp [Region.wanted])];go_simp
          refine(Cur.below c a len cap 5 _ hl (by omega) (by first | exact HA17.out.1 | exact HA17.out.2)).mono ?_;rintro e w2 ⟨x,rfl,hx0,hx1,A2,g2⟩;have hx2:=hx1 (by omega);have HS2:Hid (BkSt c a len cap w w2 g cb L):=HG17.out w2 (by first | exact .inl g2 | exact .inr g2) A2;obtain⟨s,hls,hss⟩:=HLT.out x.toNat (by omega)
          first
          | (have hs:=HK17.out w2 x.toNat s g2 (hls wr);clear g2 A2 hx1)
          | clear g2 A2 hx1
          have HA21:Hid (At c a len cap w2∧At c a len cap (w2.alloc (.cells #[.string ⟨#[97]⟩,.string ⟨#[98]⟩,.string ⟨#[99]⟩,.string ⟨#[100,100]⟩,.string ⟨#[101]⟩] 9))):=⟨HS2.out.at',(HS2.out.alloc _).at'⟩
          have HG21:Hid (∀V,(w2.grownBy V (some c)∨(w2.alloc (.cells #[.string ⟨#[97]⟩,.string ⟨#[98]⟩,.string ⟨#[99]⟩,.string ⟨#[100,100]⟩,.string ⟨#[101]⟩] 9)).grownBy V (some c))→At c a len cap V→BkSt c a len cap w V g cb L):=fun V h hA=>by
            rcases h with h | h
            · exact HS2.out.grown h hA
            · exact(HS2.out.alloc _).grown h hA
          have hcn2:c≠w2.heap.size:=by have:=HS2.out.at'.lt;omega)
       | (refine at_dst 21 rfl ?_
          rw [if_pos (by simp [Region.wanted])];go_simp
          refine(Cur.below c a len cap 4 _ hl (by omega) (by first | exact HA21.out.1 | exact HA21.out.2)).mono ?_;rintro e w3 ⟨y,rfl,hy0,hy1,A3,g3⟩;have hy2:=hy1 (by omega);have HS3:Hid (BkSt c a len cap w w3 g cb L):=HG21.out w3 (by first | exact .inl g3 | exact .inr g3) A3
          first
          | (have hs3:=Draw.kept_cell g3 hcn.symm hs;clear g3 A3 hy1)
          | (have hs3:=Draw.kept_cell g3 hcn2.symm (hls w2);clear g3 A3 hy1)
          | clear g3 A3 hy1
          have HD3:Hid (∀V,(V=w3∨V=w3.alloc (.cells #[.string ⟨#[97]⟩,.string ⟨#[98]⟩,.string ⟨#[99]⟩,.string ⟨#[100,100]⟩,.string ⟨#[101]⟩] 9))→Calls Try.prog 35 #[.slice (some ⟨g,0,none⟩) L.length cb,.agg #[.int .i64 1,.string s,.int .i64 y,.int .i64 0]] V fun e w'=>∃g' cb',e=.returned (.tuple #[.slice (some ⟨g',0,none⟩) (doB L ⟨1,s,y,0⟩).1.length cb',.int .i64 (doB L ⟨1,s,y,0⟩).2])∧BkSt c a len cap w w' g' cb' (doB L ⟨1,s,y,0⟩).1):=fun V hV=>by
            have hS:BkSt c a len cap w V g cb L:=by
              rcases hV with rfl | rfl
              · exact HS3.out
              · exact HS3.out.alloc _
            exact(l17Do g cb L ⟨1,s,y,0⟩ w.heap.size V hS.size hS.own hll HLV.out (by dsimp only;omega)).mono fun e w' h=>by
              obtain⟨g',cb',he,ho,hg⟩:=h;exact⟨g',cb',he,hS.next ho hg⟩)
       | (refine at_dst 23 rfl ?_
          rw [if_pos (by simp [Region.wanted])];go_simp
          refine(HD3.out _ (by first | exact .inl rfl | exact .inr rfl)).mono ?_;rintro e w4 ⟨g',cb',rfl,hst4⟩;have HS4:Hid (BkSt c a len cap w w4 g' cb' (doB L ⟨1,s,y,0⟩).1):=hst4;have HP:Hid (_):=put_good (m:=0) HB.out (show EnB ⟨s,y⟩ from⟨by show s.size≤4;omega,by show -100000≤y;omega,by show y≤100000;omega⟩);clear hst4))
     all_goals
       have HQ:=HP;clear HP HLT HST HLV;generalize doB L ⟨1,s,y,0⟩=M at *;have hql:=HQ.out.2;have HQB:Hid (∀f∈M.1,EnB f):=HQ.out.1;clear HQ;go_wp2;go_roundw
       case rel=>exact⟨k-1,g',cb',M.1,by congr 1;omega,rfl,by omega,HQB,HS4⟩
       case measure=>simp [intOf];omega
   · obtain rfl:k=0:=by omega
     go_wp2_with fail
     refine(Cur.once c a len cap 10 _ hl (by omega) HS.out.at').mono ?_;rintro e w2 ⟨b,rfl,A2,g2⟩;have HS2:Hid (BkSt c a len cap w w2 g cb L):=HS.out.grown g2 A2;clear A2 g2 HS
     cases b
     · go_wp2;go_ret;exact⟨g,cb,L,rfl,by omega,HB.out,HS2.out.own,HS2.out.at',HS2.out.gr⟩
     · go_wp2_with fail
       refine(Cur.below c a len cap 3 _ hl (by omega) HS2.out.at').mono ?_;rintro e w3 ⟨y,rfl,hy0,hy1,A3,g3⟩;have hy2:=hy1 (by omega);have HS3:Hid (BkSt c a len cap w w3 g cb L):=HS2.out.grown g3 A3;clear A3 g3 HS2 hy1;rcases(show y=0∨y=1∨y=2 by omega) with rfl | rfl | rfl
       · go_wp2_with (at_builtin;refine list_E rfl _ _ rfl w.heap.size g cb L [⟨⟨#[97]⟩,1⟩] (by first | rfl | simp [Act.eval]) (HS3.out.alloc _).own ⟨w3.heap.size,0,none⟩ 1 1 rfl (by first | rfl | simp [Act.eval]) (one_cells w3 ⟨⟨#[97]⟩,1⟩ _) (by omega) (HS3.out.alloc _).size ?_)
         intro g' cb' w4 ho hg;have HS4:Hid (BkSt c a len cap w w4 g' cb' (L++[⟨⟨#[97]⟩,1⟩])):=(HS3.out.alloc _).next ho hg;have HB4:Hid (∀f∈L++[⟨⟨#[97]⟩,1⟩],EnB f):=fun f hf=>by
           rcases List.mem_append.1 hf with h | h
           · exact HB.out f h
           · simp at h;subst h;exact⟨by decide,by decide,by decide⟩
         clear ho hg HS3 HB;go_wp2;go_ret;exact⟨g',cb',_,ret_sl (by simp),by simp;omega,HB4.out,HS4.out.own,HS4.out.at',HS4.out.gr⟩
       · have HA8:Hid (At c a len cap (w3.alloc (.cells #[.int .i64 (-1),.int .i64 9999,.int .i64 10000] 2))):=(HS3.out.alloc _).at';go_wp2_with fail
         refine(Cur.below c a len cap 3 _ hl (by omega) HA8.out).mono ?_;rintro e w4 ⟨x,rfl,hx0,hx1,A4,g4⟩;have hx2:=hx1 (by omega);obtain⟨v,hv,hv0,hv1,hvb⟩:∃v,w4.cell? ⟨w3.heap.size,x.toNat,none⟩=some (.int .i64 v)∧-9223372036854775808≤v∧v≤9223372036854775807∧(-100000≤v∧v≤100000):=by
           have hne:w3.heap.size≠c:=by have:=HS3.out.at'.lt;omega
           rcases(show x=0∨x=1∨x=2 by omega) with rfl | rfl | rfl
           · exact⟨-1,Draw.kept_cell g4 hne (by simp),by decide,by decide,by decide,by decide⟩
           · exact⟨9999,Draw.kept_cell g4 hne (by simp),by decide,by decide,by decide,by decide⟩
           · exact⟨10000,Draw.kept_cell g4 hne (by simp),by decide,by decide,by decide,by decide⟩
         have HS4:Hid (BkSt c a len cap w w4 g cb L):=(HS3.out.alloc _).grown g4 A4;clear A4 g4 HS3 HA8 hx1;go_wp2_with (at_builtin;refine list_E rfl _ _ rfl w.heap.size g cb L [⟨⟨#[122,122]⟩,v⟩] (by first | rfl | simp [Act.eval]) (HS4.out.alloc _).own ⟨w4.heap.size,0,none⟩ 1 1 rfl (by first | rfl | simp [Act.eval]) (one_cells w4 ⟨⟨#[122,122]⟩,v⟩ _) (by omega) (HS4.out.alloc _).size ?_)
         intro g' cb' w5 ho hg;have HS5:Hid (BkSt c a len cap w w5 g' cb' (L++[⟨⟨#[122,122]⟩,v⟩])):=(HS4.out.alloc _).next ho hg;have HB5:Hid (∀f∈L++[⟨⟨#[122,122]⟩,v⟩],EnB f):=fun f hf=>by
           rcases List.mem_append.1 hf with h | h
           · exact HB.out f h
           · simp at h;subst h;exact⟨by show ByteArray.size ⟨#[122,122]⟩≤4;decide,hvb.1,hvb.2⟩
         clear ho hg HS4 HB hv;go_wp2;go_ret;exact⟨g',cb',_,ret_sl (by simp),by simp;omega,HB5.out,HS5.out.own,HS5.out.at',HS5.out.gr⟩
       · have HZ:Hid (BkSt c a len cap w (w3.alloc (.cells #[] 38)) w3.heap.size 0 []):=
           ⟨(owE_new w3).mono HS3.out.size,(HS3.out.alloc _).at',(HS3.out.alloc _).gr,HS3.out.lt,HS3.out.code⟩
         clear HS3 HB;go_wp2;go_loopw [3,5] (fun bv iv wr=>∃(j g cb:Nat) (M:List En),iv=.int .i64 (j:Int)∧bv=.slice (some ⟨g,0,none⟩) M.length cb∧M.length=j∧j≤9∧Hid (∀f∈M,EnB f)∧Hid (BkSt c a len cap w wr g cb M)) (fun _ iv _=>10-(intOf iv).toNat)
         case atStart=>exact⟨0,w3.heap.size,0,[],rfl,rfl,rfl,by omega,fun f hf=>by simp at hf,HZ⟩
         case round=>
           clear HZ;obtain⟨j,g,cb,M,rfl,rfl,hMj,hj,HB,HS⟩:=hrel;go_wp2_with fail
           refine(Cur.below c a len cap 2 _ hl (by omega) HS.out.at').mono ?_;rintro e w4 ⟨z,rfl,hz0,hz1,A4,g4⟩;have hz2:=hz1 (by omega);have HS4:Hid (BkSt c a len cap w w4 g cb M):=HS.out.grown g4 A4;clear A4 g4 hz1 HS;by_cases hjz:(j:Int)<8+z
           · have kc:∀W:World,(convert 22 9 (.slice (some ⟨W.heap.size,0,none⟩) 1 1)).run Try.prog (W.alloc (.cells #[.int .u8 (107+(j:Int))] 5))=.ok (.string (strOfNums [107+(j:Int)])) (W.alloc (.cells #[.int .u8 (107+(j:Int))] 5)):=fun W=>run_convert_bytes_arg (P:=Try.prog) (W.alloc (.cells #[.int .u8 (107+(j:Int))] 5)) 22 5 Try.underlying22 Try.underlying5 W.heap.size 0 1 1 [107+(j:Int)] rfl
               (fun i hi=>by obtain rfl:i=0:=(by omega);simp) 9 Try.underlying9
             have hks:(strOfNums [107+(j:Int)]).size=1:=by simp [strOfNums,ByteArray.size]
             generalize strOfNums [107+(j:Int)]=ks at kc hks;have HS5:Hid (BkSt c a len cap w (w4.alloc (.cells #[.int .u8 (107+(j:Int))] 5)) g cb M):=HS4.out.alloc _;clear HS4;go_wp2_with (at_builtin;refine list_E rfl _ _ rfl w.heap.size g cb M [⟨ks,9990⟩] (by first | rfl | simp [Act.eval,hMj]) (HS5.out.alloc _).own ⟨w4.heap.size+1,0,none⟩ 1 1 rfl (by first | rfl | simp [Act.eval]) (by have:=one_cells (w4.alloc (.cells #[.int .u8 (107+(j:Int))] 5)) ⟨ks,9990⟩ 38;intro j u hj;have:=this j u hj;simpa using this) (by omega) (HS5.out.alloc _).size ?_)
             intro g' cb' w6 ho hg;have HS6:Hid (BkSt c a len cap w w6 g' cb' (M++[⟨ks,9990⟩])):=(HS5.out.alloc _).next ho hg;have HB6:Hid (∀f∈M++[⟨ks,9990⟩],EnB f):=fun f hf=>by
               rcases List.mem_append.1 hf with h | h
               · exact HB.out f h
               · simp at h;subst h;exact⟨by show ks.size≤4;omega,by show(-100000:Int)≤9990;decide,by show(9990:Int)≤100000;decide⟩
             clear ho hg HS5 HB kc;go_wp2;go_roundw
             case rel=>exact⟨j+1,g',cb',_,by go_num,by congr 1;simp;try omega,by simp;omega,by omega,HB6,HS6⟩
             case measure=>simp [intOf];omega
           · go_wp2;go_ret;exact⟨g,cb,M,ret_sl (by omega),by omega,HB.out,HS4.out.own,HS4.out.at',HS4.out.gr⟩
end Bk
namespace Bk
open Cur (At)
open De (D okD TwoD ZeD put4D zeD_new code_below)
open Kn (code_lt)
theorem minM(n m:Int)(w:World):Calls Try.prog 29 #[.int .i64 n,.int .i64 m] w fun e w'=>e=.returned (.int .i64 (if n<m then n else m))∧w'=w:=by
 by_cases h:n<m
 ·rw [if_pos h];go_enter Try.func29,Try.ntmps29
  go_wp2;go_ret;exact⟨rfl,rfl⟩
 ·rw [if_neg h];go_enter Try.func29,Try.ntmps29
  go_wp2;go_ret;exact⟨rfl,rfl⟩
def DrawnV(w:World)(e:Ending)(w':World):Prop:=∃g cb L key,e=.returned (.tuple #[.slice (some ⟨g,0,none⟩) (L:List En).length cb,.string key])∧L.length≤10∧(∀f∈L,EnB f)∧OwE w.heap.size w' g cb L∧key.size≤4∧Below w.heap.size w w'
theorem drawValueOf(a:Option Addr)(len cap:Nat)(w:World)(hl:len≤4096)(hc:Cur.Code w a len):Calls Try.prog 10 #[.slice a len cap] w (DrawnV w):=by
 go_enter Try.func10,Try.ntmps10
 go_wp2_with fail
 refine(Cur.new a len cap _ hl hc).mono ?_;rintro e w1 ⟨rfl,A1,B1⟩;go_wp2_with fail
 refine(l17Draw _ a len cap _ hl A1).mono ?_;rintro e w2 ⟨g,cb,L,rfl,hL,hEB,ho,A2,g2⟩;have hcw:w.heap.size<w1.heap.size:=A1.lt;have HB2:Hid (Below w.heap.size w w2):=Draw.below_of_grown B1 (Nat.le_refl _) g2;have hgb:=ho.shape.2.2.1;have hB1:=B1.size;have HO:Hid (OwE w1.heap.size w2 g cb L):=ho;have HE:Hid (∀f∈L,EnB f):=hEB;clear g2 B1 A1 ho hEB;have HLT:Hid (∀j:Nat,j<7→∃s:ByteArray,(∀W:World,(W.alloc (.cells #[.string ⟨#[97]⟩,.string ⟨#[98]⟩,.string ⟨#[99]⟩,.string ⟨#[100,100]⟩,.string ⟨#[107]⟩,.string ⟨#[122,122]⟩,.string ⟨#[]⟩] 9)).cell? ⟨W.heap.size,j,none⟩=some (.string s))∧s.size≤4):=fun j hj=>by
   obtain⟨s,h1,h2⟩:=lit_all [⟨#[97]⟩,⟨#[98]⟩,⟨#[99]⟩,⟨#[100,100]⟩,⟨#[107]⟩,⟨#[122,122]⟩,⟨#[]⟩] j hj 4 (by decide);exact⟨s,fun W=>h1 W _,h2⟩
 have HAA:Hid (At w.heap.size a len cap w2.drew∧At w.heap.size a len cap (w2.alloc (.cells #[.string ⟨#[97]⟩,.string ⟨#[98]⟩,.string ⟨#[99]⟩,.string ⟨#[100,100]⟩,.string ⟨#[107]⟩,.string ⟨#[122,122]⟩,.string ⟨#[]⟩] 9)).drew):=⟨A2.below (Below.refl _ _).drew,(Draw.at_alloc A2 _).below (Below.refl _ _).drew⟩
 have hne:w2.heap.size≠w.heap.size:=by have:=A2.lt;omega
 have HK:Hid (∀(V:World) (j:Nat) (s:ByteArray),(w2.alloc (.cells #[.string ⟨#[97]⟩,.string ⟨#[98]⟩,.string ⟨#[99]⟩,.string ⟨#[100,100]⟩,.string ⟨#[107]⟩,.string ⟨#[122,122]⟩,.string ⟨#[]⟩] 9)).drew.grownBy V (some w.heap.size)→(w2.alloc (.cells #[.string ⟨#[97]⟩,.string ⟨#[98]⟩,.string ⟨#[99]⟩,.string ⟨#[100,100]⟩,.string ⟨#[107]⟩,.string ⟨#[122,122]⟩,.string ⟨#[]⟩] 9)).cell? ⟨w2.heap.size,j,none⟩=some (.string s)→V.cell? ⟨w2.heap.size,j,none⟩=some (.string s)):=fun V j s h hs=>Draw.kept_cell h hne hs
 have HF:Hid (∀V,(w2.drew.grownBy V (some w.heap.size)∨(w2.alloc (.cells #[.string ⟨#[97]⟩,.string ⟨#[98]⟩,.string ⟨#[99]⟩,.string ⟨#[100,100]⟩,.string ⟨#[107]⟩,.string ⟨#[122,122]⟩,.string ⟨#[]⟩] 9)).drew.grownBy V (some w.heap.size))→OwE w.heap.size V g cb L∧Below w.heap.size w V):=fun V h=>by
   rcases h with h | h
   · exact⟨(OwE.grown (w:=w2.drew) HO.out h hcw).mono hB1,Draw.below_of_grown HB2.out.drew (Nat.le_refl _) h⟩
   · exact⟨(OwE.grown (w:=(w2.alloc _).drew) (HO.out.alloc _) h hcw).mono hB1,Draw.below_of_grown (HB2.out.alloc HB2.out.size _).drew (Nat.le_refl _) h⟩
 clear A2;go_wp2_with fail
 go_region_law (first
   | (refine at_dst 13 rfl ?_
      rw [if_pos (by simp [Region.wanted])];go_simp
      refine(Cur.below w.heap.size a len cap 7 _ hl (by omega) (by first | exact HAA.out.1 | exact HAA.out.2)).mono ?_;rintro e w3 ⟨x,rfl,hx0,hx1,A3,g3⟩;have hx2:=hx1 (by omega);have HF3:Hid (_):=HF.out w3 (by first | exact .inl g3 | exact .inr g3);obtain⟨s,hls,hss⟩:=HLT.out x.toNat (by omega)
      first
      | (have hs:=HK.out w3 x.toNat s g3 (hls w2);clear g3 A3 hx1)
      | clear g3 A3 hx1))
 · clear HLT HAA HK HF HO HB2 hls;go_wp2;go_ret2
   exact⟨g,cb,L,s,rfl,hL,HE.out,HF3.out.1,hss,HF3.out.2⟩
 · have HF4:Hid (OwE w.heap.size (w3.alloc (.cells #[.string ⟨#[97]⟩,.string ⟨#[98]⟩,.string ⟨#[99]⟩,.string ⟨#[100,100]⟩,.string ⟨#[107]⟩,.string ⟨#[122,122]⟩,.string ⟨#[]⟩] 9)) g cb L∧Below w.heap.size w (w3.alloc (.cells #[.string ⟨#[97]⟩,.string ⟨#[98]⟩,.string ⟨#[99]⟩,.string ⟨#[100,100]⟩,.string ⟨#[107]⟩,.string ⟨#[122,122]⟩,.string ⟨#[]⟩] 9))):=⟨HF3.out.1.alloc _,HF3.out.2.alloc HF3.out.2.size _⟩
   clear HLT HAA HK HF HO HB2 hls HF3;go_wp2;go_ret2
   exact⟨g,cb,L,s,rfl,hL,HE.out,HF4.out.1,hss,HF4.out.2⟩
def DrawnX(w:World)(e:Ending)(w':World):Prop:=∃g cb L k s v n,e=.returned (.tuple #[.slice (some ⟨g,0,none⟩) (L:List En).length cb,.agg #[.int .i64 k,.string s,.int .i64 v,.int .i64 n]])∧L.length≤10∧(∀f∈L,EnB f)∧OwE w.heap.size w' g cb L∧(s:ByteArray).size≤4∧Below w.heap.size w w'
structure DdSt(c b0 x:Nat)(a:Option Addr)(len cap:Nat)(w wr:World)(g cb:Nat)(L:List En)(k:Int)(s:ByteArray)(v n:Int):Prop where
 at':At c a len cap wr
 two:TwoD b0 x wr k s v n
 own:OwE w.heap.size wr g cb L
 n1:b0≠c
 n2:x≠c
 n3:g≠c
 n4:g≠x
 n5:g≠b0
 l0:w.heap.size≤b0
 lc:w.heap.size≤c
 code:len=0∨∃b off,a=some ⟨b,off,none⟩∧b<w.heap.size
 be:Below w.heap.size w wr
section
variable {c b0 x:Nat} {a:Option Addr} {len cap:Nat} {w wr V:World} {g cb:Nat} {L:List En} {k:Int} {s:ByteArray} {v n:Int}
theorem DdSt.grown(h:DdSt c b0 x a len cap w wr g cb L k s v n)(hg:wr.grownBy V (some c))(hA:At c a len cap V):DdSt c b0 x a len cap w V g cb L k s v n where
 at':=hA
 two := ⟨h.two.bx,Nat.lt_of_lt_of_le h.two.lt hg.size,Draw.kept_cell hg h.n1 h.two.r0,Draw.kept_cell hg h.n1 h.two.r1,Draw.kept_cell hg h.n1 h.two.r2,Draw.kept_cell hg h.n1 h.two.r3,
   fun j=>(hg.frozen_far ⟨b0,j,none⟩ (Nat.lt_trans h.two.bx h.two.lt) (by simpa using h.n1)).trans (h.two.rf j),
   Draw.kept_cell hg h.n2 h.two.k0,Draw.kept_cell hg h.n2 h.two.k1,Draw.kept_cell hg h.n2 h.two.k2,Draw.kept_cell hg h.n2 h.two.k3,
   fun j=>(hg.frozen_far ⟨x,j,none⟩ h.two.lt (by simpa using h.n2)).trans (h.two.kf j)⟩
 own:=h.own.keep hg h.n3
 n1:=h.n1
 n2:=h.n2
 n3:=h.n3
 n4:=h.n4
 n5:=h.n5
 l0:=h.l0
 lc:=h.lc
 code:=h.code
 be:=Draw.below_of_grown h.be h.lc hg
theorem DdSt.below(h:DdSt c b0 x a len cap w wr g cb L k s v n)(hb:Below wr.heap.size wr V):DdSt c b0 x a len cap w V g cb L k s v n:=
 ⟨h.at'.below hb,h.two.below hb,h.own.below hb,h.n1,h.n2,h.n3,h.n4,h.n5,h.l0,h.lc,h.code,h.be.trans (hb.mono h.be.size)⟩
theorem DdSt.put(h:DdSt c b0 x a len cap w wr g cb L k s v n){k' v' n':Int}{s':ByteArray}(j:Nat)(u:Value)(ht:TwoD b0 x (wr.setCell ⟨x,j,none⟩ u) k' s' v' n'):DdSt c b0 x a len cap w (wr.setCell ⟨x,j,none⟩ u) g cb L k' s' v' n':=by
 have hx:w.heap.size≤x:=by have:=h.l0;have:=h.two.bx;omega
 exact⟨Kn.At.put h.at' h.n2 h.code hx j u,ht,h.own.keep (grown_set (World.grownBy.refl wr (some x)) j u) h.n4,h.n1,h.n2,h.n3,h.n4,h.n5,h.l0,h.lc,h.code,h.be.setCell (p:=⟨x,j,none⟩) hx u⟩
theorem DdSt.final(h:DdSt c b0 x a len cap w wr g cb L k s v n)(v0 v1 v2 v3:Value):OwE w.heap.size ((((wr.setCell ⟨b0,0,none⟩ v0).setCell ⟨b0,1,none⟩ v1).setCell ⟨b0,2,none⟩ v2).setCell ⟨b0,3,none⟩ v3) g cb L∧Below w.heap.size w ((((wr.setCell ⟨b0,0,none⟩ v0).setCell ⟨b0,1,none⟩ v1).setCell ⟨b0,2,none⟩ v2).setCell ⟨b0,3,none⟩ v3):=
 ⟨h.own.keep (grown_set (grown_set (grown_set (grown_set (World.grownBy.refl wr (some b0)) 0 v0) 1 v1) 2 v2) 3 v3) h.n5,(((h.be.setCell (p:=⟨b0,0,none⟩) h.l0 _).setCell (p:=⟨b0,1,none⟩) h.l0 _).setCell (p:=⟨b0,2,none⟩) h.l0 _).setCell (p:=⟨b0,3,none⟩) h.l0 _⟩
end
theorem drawDone(a:Option Addr)(len cap:Nat)(w:World)(hl:len≤4096)(hc:Cur.Code w a len):Calls Try.prog 8 #[.slice a len cap] w (DrawnX w):=by
 have B0:Below w.heap.size w (w.alloc (.cells #[.int .i64 0,.string ⟨#[]⟩,.int .i64 0,.int .i64 0] 26)):=(Below.refl _ _).alloc (Nat.le_refl _) _;have P0:Hid (Below w.heap.size w (w.alloc (.cells #[.int .i64 0,.string ⟨#[]⟩,.int .i64 0,.int .i64 0] 26))∧ZeD w.heap.size (w.alloc (.cells #[.int .i64 0,.string ⟨#[]⟩,.int .i64 0,.int .i64 0] 26))):=⟨B0,zeD_new w _⟩
 clear B0;go_enter Try.func8,Try.ntmps8
 go_wp2_with fail
 generalize w.alloc (.cells #[.int .i64 0,.string ⟨#[]⟩,.int .i64 0,.int .i64 0] 26)=w0 at P0 ⊢;obtain⟨B0,Z0⟩:=P0;refine(Cur.new a len cap _ hl (code_below hc B0)).mono ?_;rintro e w1 ⟨rfl,A1,b1⟩;have Z1:=Z0.below b1;have B1:=B0.trans (b1.mono B0.size);have hlt:=Z0.lt;have hcode:len=0∨∃b off,a=some ⟨b,off,none⟩∧b<w.heap.size:=by
  rcases hc with h | ⟨b,off,ha,hb,_⟩
  ·exact .inl h
  ·exact .inr ⟨b,off,ha,hb⟩
 clear b1 B0 Z0;generalize w0.heap.size=c at A1 hlt ⊢;go_wp2_with fail
 refine(l17Draw c a len cap _ hl A1).mono ?_;rintro e w2 ⟨g,cb,L,rfl,hL,hEB,ho,A2,g2⟩;have HE:Hid (∀f∈L,EnB f):=hEB;have hgl:=ho.shape.2.2.1;have hcl:=A1.lt;have hzl:=Z1.lt;have Z2:=Z1.grown g2 (by omega);have B2:Below w.heap.size w w2:=Draw.below_of_grown B1 (by omega) g2;clear g2 A1 Z1 hEB;go_wp2_with fail
 refine(De.l16Draw c a len cap _ hl A2).mono ?_;rintro e w3 ⟨k,s,v,n,rfl,hks,A3,g3⟩;have Z3:=Z2.grown g3 (by omega);have B3:Below w.heap.size w w3:=Draw.below_of_grown B2 (by omega) g3;have ho3:=ho.grown g3 hcl;have HS:Hid (DdSt c w.heap.size w3.heap.size a len cap w (w3.alloc (.cells #[.int .i64 k,.string s,.int .i64 v,.int .i64 n] 26)) g cb L k s v n):=by
  have ba:=(Below.refl w3.heap.size w3).alloc (Nat.le_refl _) (.cells #[.int .i64 k,.string s,.int .i64 v,.int .i64 n] 26);have Z4:=Z3.below ba;have:=Z3.lt;have:=A3.lt;have hg3:=ho3.shape.2.2.2;exact⟨Draw.at_alloc A3 _,⟨Z3.lt,by simp,Z4.r0,Z4.r1,Z4.r2,Z4.r3,Z4.rf,by simp,by simp,by simp,by simp,fun j=>by simp⟩,(ho3.alloc _).mono (by have:=B1.size;omega),by omega,by omega,by omega,by omega,by omega,Nat.le_refl _,by omega,hcode,B3.alloc B3.size _⟩
 clear ho ho3 g3 A2 A3 Z2 Z3 B1 B2 B3;go_upto_region 4 with fail
 generalize w3.alloc (.cells #[.int .i64 k,.string s,.int .i64 v,.int .i64 n] 26)=V at HS ⊢;generalize w3.heap.size=x at HS ⊢;by_cases hn:0<L.length
 ·have hn':(0:Int)<(L.length:Int):=by omega
  go_wp2_with fail
  refine(Cur.once c a len cap 2 _ hl (by omega) HS.out.at').mono ?_;rintro e V1 ⟨b,rfl,A1,g1⟩;have HS1:Hid (DdSt c w.heap.size x a len cap w V1 g cb L k s v n):=HS.out.grown g1 A1;clear A1 g1 HS
  cases b
  ·obtain⟨_,_,r0,r1,r2,r3,rf,k0,k1,k2,k3,_⟩:=HS1.out.two;have rf0:=rf 0;have rf1:=rf 1;have rf2:=rf 2;have rf3:=rf 3;have HQ:Hid (_):=put4D (w:=V1) r0 r1 r2 r3 (.int .i64 k) (.string s) (.int .i64 v) (.int .i64 n);have HF:Hid (_):=HS1.out.final (.int .i64 k) (.string s) (.int .i64 v) (.int .i64 n);clear rf HS1;go_upto_region 12 with fail
   go_region
   go_wp2;obtain⟨q0,q1,q2,q3⟩:=HQ.out;exact bodyPost_ret (v:=.tuple #[.slice (some ⟨g,0,none⟩) L.length cb,.agg #[.int .i64 k,.string s,.int .i64 v,.int .i64 n]]) (by simp [results,Try.results8,go_sem,q0,q1,q2,q3]) rfl ⟨g,cb,L,k,s,v,n,rfl,hL,HE.out,HF.out.1,hks,HF.out.2.drew⟩
  ·go_wp2_with fail
   refine(Cur.below c a len cap (L.length:Int) _ hl (by omega) HS1.out.at').mono ?_;rintro e V2 ⟨j,rfl,hj0,hj1,A2,g2⟩;have hj2:=hj1 hn';have HS2:Hid (DdSt c w.heap.size x a len cap w V2 g cb L k s v n):=HS1.out.grown g2 A2;clear A2 g2 HS1 hj1;obtain⟨j,rfl⟩:=Int.eq_ofNat_of_zero_le hj0;have hjn:j<L.length:=by omega
   have hes:=(enB_at HE.out hjn).1;obtain⟨_,c0,c1⟩:=HS2.out.own.rd.on j hjn;rw [Nat.zero_add] at c0 c1;have hxv:=HS2.out.two.lt;have hcv:=HS2.out.at'.lt;have HS3:Hid (DdSt c w.heap.size x a len cap w (V2.alloc (.cells #[.string (atE L j).key,.int .i64 (atE L j).val] 38)) g cb L k s v n):=HS2.out.below ((Below.refl _ _).alloc (Nat.le_refl _) _);have e0:(V2.alloc (.cells #[.string (atE L j).key,.int .i64 (atE L j).val] 38)).cell? ⟨V2.heap.size,0,none⟩=some (.string (atE L j).key):=by simp
   have e1:(V2.alloc (.cells #[.string (atE L j).key,.int .i64 (atE L j).val] 38)).cell? ⟨V2.heap.size,1,none⟩=some (.int .i64 (atE L j).val):=by simp
   clear HS2;go_upto_region 7 with fail
   generalize V2.alloc (.cells #[.string (atE L j).key,.int .i64 (atE L j).val] 38)=V3 at HS3 e0 e1 ⊢;clear c0 c1;generalize V2.heap.size=y at *;generalize (atE L j).key=ek at *;generalize (atE L j).val=ev at *;have kk:=HS3.out.two.k1;have ff:=HS3.out.two.kf 1;have HS4:Hid (DdSt c w.heap.size x a len cap w (V3.setCell ⟨x,1,none⟩ (.string ek)) g cb L k ek v n):=HS3.out.put 1 _ (HS3.out.two.set1 ek);have e2:(V3.setCell ⟨x,1,none⟩ (.string ek)).cell? ⟨y,1,none⟩=some (.int .i64 ev):=(World.cell?_setCell_other _ _ _ _ (by simp)).trans e1;clear HS3 e1;go_upto_region 8 with fail
   generalize V3.setCell ⟨x,1,none⟩ (.string ek)=V4 at HS4 e2 ⊢;clear kk ff e0;have k0:=HS4.out.two.k0;have hcy:y≠c:=by omega
   by_cases k4:k=4
   ·subst k4;go_wp2_with fail
    refine(Cur.once c a len cap 2 _ hl (by omega) HS4.out.at').mono ?_;rintro e V5 ⟨b,rfl,A5,g5⟩;have HS5:Hid (DdSt c w.heap.size x a len cap w V5 g cb L 4 ek v n):=HS4.out.grown g5 A5;have e3:=Draw.kept_cell g5 hcy e2;clear A5 g5 HS4 k0 e2
    cases b
    ·obtain⟨_,_,r0,r1,r2,r3,rf,k0,k1,k2,k3,_⟩:=HS5.out.two;have rf0:=rf 0;have rf1:=rf 1;have rf2:=rf 2;have rf3:=rf 3;have HQ:Hid (_):=put4D (w:=V5) r0 r1 r2 r3 (.int .i64 4) (.string ek) (.int .i64 v) (.int .i64 n);have HF:Hid (_):=HS5.out.final (.int .i64 4) (.string ek) (.int .i64 v) (.int .i64 n);clear rf HS5;go_upto_region 12 with fail
     go_region
     go_wp2;obtain⟨q0,q1,q2,q3⟩:=HQ.out;exact bodyPost_ret (v:=.tuple #[.slice (some ⟨g,0,none⟩) L.length cb,.agg #[.int .i64 4,.string ek,.int .i64 v,.int .i64 n]]) (by simp [results,Try.results8,go_sem,q0,q1,q2,q3]) rfl ⟨g,cb,L,4,ek,v,n,rfl,hL,HE.out,HF.out.1,hes,HF.out.2.drew⟩
    ·go_wp2_with fail
     refine(minM 99 ev V5).mono ?_;rintro e V6 ⟨rfl,rfl⟩;generalize (if (99:Int)<ev then (99:Int) else ev)=mv;have kk:=HS5.out.two.k2;have ff:=HS5.out.two.kf 2;have HS6:Hid (DdSt c w.heap.size x a len cap w (V6.setCell ⟨x,2,none⟩ (.int .i64 mv)) g cb L 4 ek mv n):=HS5.out.put 2 _ (HS5.out.two.set2 mv);clear HS5 e3;go_upto_region 10 with fail
     generalize V6.setCell ⟨x,2,none⟩ (.int .i64 mv)=V7 at HS6 ⊢;clear kk ff;obtain⟨_,_,r0,r1,r2,r3,rf,k0,k1,k2,k3,_⟩:=HS6.out.two;have rf0:=rf 0;have rf1:=rf 1;have rf2:=rf 2;have rf3:=rf 3;have HQ:Hid (_):=put4D (w:=V7) r0 r1 r2 r3 (.int .i64 4) (.string ek) (.int .i64 mv) (.int .i64 n);have HF:Hid (_):=HS6.out.final (.int .i64 4) (.string ek) (.int .i64 mv) (.int .i64 n);clear rf HS6;go_upto_region 12 with fail
     go_region
     go_wp2;obtain⟨q0,q1,q2,q3⟩:=HQ.out;exact bodyPost_ret (v:=.tuple #[.slice (some ⟨g,0,none⟩) L.length cb,.agg #[.int .i64 4,.string ek,.int .i64 mv,.int .i64 n]]) (by simp [results,Try.results8,go_sem,q0,q1,q2,q3]) rfl ⟨g,cb,L,4,ek,mv,n,rfl,hL,HE.out,HF.out.1,hes,HF.out.2.drew⟩
   ·have kb4:(k == 4)=false:=by simpa using k4
    by_cases k3:k=3
    ·subst k3;go_wp2_with fail
     refine(Cur.once c a len cap 2 _ hl (by omega) HS4.out.at').mono ?_;rintro e V5 ⟨b,rfl,A5,g5⟩;have HS5:Hid (DdSt c w.heap.size x a len cap w V5 g cb L 3 ek v n):=HS4.out.grown g5 A5;clear A5 g5 HS4 k0 e2
     cases b
     ·obtain⟨_,_,r0,r1,r2,r3,rf,k0,k1,k2,k3,_⟩:=HS5.out.two;have rf0:=rf 0;have rf1:=rf 1;have rf2:=rf 2;have rf3:=rf 3;have HQ:Hid (_):=put4D (w:=V5) r0 r1 r2 r3 (.int .i64 3) (.string ek) (.int .i64 v) (.int .i64 n);have HF:Hid (_):=HS5.out.final (.int .i64 3) (.string ek) (.int .i64 v) (.int .i64 n);clear rf HS5;go_upto_region 12 with fail
      go_region
      go_wp2;obtain⟨q0,q1,q2,q3⟩:=HQ.out;exact bodyPost_ret (v:=.tuple #[.slice (some ⟨g,0,none⟩) L.length cb,.agg #[.int .i64 3,.string ek,.int .i64 v,.int .i64 n]]) (by simp [results,Try.results8,go_sem,q0,q1,q2,q3]) rfl ⟨g,cb,L,3,ek,v,n,rfl,hL,HE.out,HF.out.1,hes,HF.out.2.drew⟩
     ·have kk:=HS5.out.two.k2;have ff:=HS5.out.two.kf 2;have HS6:Hid (DdSt c w.heap.size x a len cap w (V5.setCell ⟨x,2,none⟩ (.int .i64 20)) g cb L 3 ek 20 n):=HS5.out.put 2 _ (HS5.out.two.set2 20);clear HS5;go_upto_region 12 with fail
      generalize V5.setCell ⟨x,2,none⟩ (.int .i64 20)=V7 at HS6 ⊢;clear kk ff;obtain⟨_,_,r0,r1,r2,r3,rf,k0,k1,k2,k3,_⟩:=HS6.out.two;have rf0:=rf 0;have rf1:=rf 1;have rf2:=rf 2;have rf3:=rf 3;have HQ:Hid (_):=put4D (w:=V7) r0 r1 r2 r3 (.int .i64 3) (.string ek) (.int .i64 20) (.int .i64 n);have HF:Hid (_):=HS6.out.final (.int .i64 3) (.string ek) (.int .i64 20) (.int .i64 n);clear rf HS6;go_upto_region 12 with fail
      go_region
      go_wp2;obtain⟨q0,q1,q2,q3⟩:=HQ.out;exact bodyPost_ret (v:=.tuple #[.slice (some ⟨g,0,none⟩) L.length cb,.agg #[.int .i64 3,.string ek,.int .i64 20,.int .i64 n]]) (by simp [results,Try.results8,go_sem,q0,q1,q2,q3]) rfl ⟨g,cb,L,3,ek,20,n,rfl,hL,HE.out,HF.out.1,hes,HF.out.2.drew⟩
    ·have kb3:(k == 3)=false:=by simpa using k3
     clear e2;obtain⟨_,_,r0,r1,r2,r3,rf,k0,k1,k2,k3,_⟩:=HS4.out.two;have rf0:=rf 0;have rf1:=rf 1;have rf2:=rf 2;have rf3:=rf 3;have HQ:Hid (_):=put4D (w:=V4) r0 r1 r2 r3 (.int .i64 k) (.string ek) (.int .i64 v) (.int .i64 n);have HF:Hid (_):=HS4.out.final (.int .i64 k) (.string ek) (.int .i64 v) (.int .i64 n);clear rf HS4;go_upto_region 12 with fail
     go_region
     go_wp2;obtain⟨q0,q1,q2,q3⟩:=HQ.out;exact bodyPost_ret (v:=.tuple #[.slice (some ⟨g,0,none⟩) L.length cb,.agg #[.int .i64 k,.string ek,.int .i64 v,.int .i64 n]]) (by simp [results,Try.results8,go_sem,q0,q1,q2,q3]) rfl ⟨g,cb,L,k,ek,v,n,rfl,hL,HE.out,HF.out.1,hes,HF.out.2.drew⟩
 ·have hn':¬ (0:Int)<(L.length:Int):=by omega
  obtain⟨_,_,r0,r1,r2,r3,rf,k0,k1,k2,k3,_⟩:=HS.out.two;have rf0:=rf 0;have rf1:=rf 1;have rf2:=rf 2;have rf3:=rf 3;have HQ:Hid (_):=put4D (w:=V) r0 r1 r2 r3 (.int .i64 k) (.string s) (.int .i64 v) (.int .i64 n);have HF:Hid (_):=HS.out.final (.int .i64 k) (.string s) (.int .i64 v) (.int .i64 n);clear rf HS;go_upto_region 12 with fail
  go_region
  go_wp2;obtain⟨q0,q1,q2,q3⟩:=HQ.out;exact bodyPost_ret (v:=.tuple #[.slice (some ⟨g,0,none⟩) L.length cb,.agg #[.int .i64 k,.string s,.int .i64 v,.int .i64 n]]) (by simp [results,Try.results8,go_sem,q0,q1,q2,q3]) rfl ⟨g,cb,L,k,s,v,n,rfl,hL,HE.out,HF.out.1,hks,HF.out.2.drew⟩
end Bk
end
section
namespace Lc
open Kn (K)
open Bit (bit)
def k0:K:=⟨0,0,0,⟨#[]⟩⟩
def at'(L:List K)(i:Nat):K:=L.getD i k0
end Lc
end
section
namespace Lc
open Kn (K)
open Bit (bit)
structure CellsK(w:World)(g o:Nat)(k:K):Prop where
 c0:w.cell? ⟨g,o,none⟩=some (.int .i64 k.hand)
 c1:w.cell? ⟨g,o+1,none⟩=some (.int .i64 k.round)
 c2:w.cell? ⟨g,o+2,none⟩=some (.int .i64 k.frm)
 c3:w.cell? ⟨g,o+3,none⟩=some (.string k.word)
def RdK(w:World)(ao:Option Addr)(L:List K):Prop:=
 L=[]∨∃g off,ao=some ⟨g,off,none⟩∧g<w.heap.size∧∀i,i<L.length→CellsK w g (off+i*4) (at' L i)
theorem CellsK.below{w w':World}{g o:Nat}{k:K}(h:CellsK w g o k)(hb:Below w.heap.size w w')(hg:g<w.heap.size):CellsK w' g o k where
 c0:=(hb.cell (p:=⟨g,o,none⟩) hg).trans h.c0
 c1:=(hb.cell (p:=⟨g,o+1,none⟩) hg).trans h.c1
 c2:=(hb.cell (p:=⟨g,o+2,none⟩) hg).trans h.c2
 c3:=(hb.cell (p:=⟨g,o+3,none⟩) hg).trans h.c3
theorem RdK.below{w w':World}{ao:Option Addr}{L:List K}(h:RdK w ao L)(hb:Below w.heap.size w w'):RdK w' ao L:=by
 rcases h with h | ⟨g,off,ha,hg,hc⟩
 ·exact .inl h
 ·exact .inr ⟨g,off,ha,Nat.lt_of_lt_of_le hg hb.size,fun i hi=>(hc i hi).below hb hg⟩
end Lc
end
section
namespace Kn
end Kn
end
section
namespace Lc
open Kn (K)
structure Made(w:World)(B n:Nat)(L:List K)(j:Nat):Prop where
 lt:B<w.heap.size
 rd:∀i,i<j→CellsK w B (i*4) (at' L i)
 ex:∀i,i<n*4→∃v,w.cell? ⟨B,i,none⟩=some v
 fr:∀i,i<n*4→w.frozen? ⟨B,i,none⟩=false
theorem Made.below{w w':World}{B n j:Nat}{L:List K}(h:Made w B n L j)(hb:Below w.heap.size w w'):Made w' B n L j where
 lt:=Nat.lt_of_lt_of_le h.lt hb.size
 rd:=fun i hi=>(h.rd i hi).below hb h.lt
 ex:=fun i hi=>by obtain⟨v,hv⟩:=h.ex i hi;exact⟨v,(hb.cell (p:=⟨B,i,none⟩) h.lt).trans hv⟩
 fr:=fun i hi=>(hb.frozen (p:=⟨B,i,none⟩) h.lt).trans (h.fr i hi)
end Lc
end
section
namespace Lc
open Kn (K dig B B_size B_app conv1)
def mdig:Nat→Nat→List UInt8→List UInt8
 | 0,_,s=>s
 | f+1,m,s=>if m=0 then s else mdig f (m / 10) (dig m :: s)
def markS(k:Nat):ByteArray:=B (109 :: mdig k k [])
theorem mdig_zero(f:Nat)(s:List UInt8):mdig f 0 s=s:=by
 cases f <;> simp [mdig]
theorem markText(k:Nat)(hk:0<k)(hk2:k≤100000000)(w:World):Calls Try.prog 42 #[.int .i64 (k:Int)] w fun e w'=>e=.returned (.string (markS k))∧Below w.heap.size w w':=by
 have kc:=conv1;have hk':¬ (k:Int)≤0:=by omega
 go_enter Try.func42,Try.ntmps42
 go_wp2;go_loopw [0,3] (fun v t wr=>∃(m f:Nat) (s:List UInt8),v=.int .i64 (m:Int)∧t=.string (B s)∧m≤f∧s.length+m≤k∧Hid (mdig k k []=mdig f m s)∧Hid (Below w.heap.size w wr)) (fun v _ _=>(intOf v).toNat)
 case atStart=>exact⟨k,k,[],rfl,rfl,Nat.le_refl _,by simp,rfl,Below.refl _ _⟩
 case round=>
  obtain⟨m,f,s,rfl,rfl,hmf,hsm,HD,HB⟩:=hrel;have hsz:=B_size s;have hsz1:∀x:Nat,(B [dig x]).size=1:=fun x=>B_size _
  by_cases hm:0<m
  ·obtain⟨f',rfl⟩:∃f',f=f'+1:=⟨f-1,by omega⟩
   have HN:Hid (mdig k k []=mdig f' (m / 10) (dig m :: s)):=by
    show _=_;rw [HD.out];show(if m=0 then s else _)=_;rw [if_neg (by omega)]
   have HE:Hid (B [dig m]++B s=B (dig m :: s)):=B_app [dig m] s;have HB1:∀o:Obj,Hid (Below w.heap.size w (wr.alloc o)):=fun o=>HB.out.alloc HB.out.size o
   have hm':(0:Int)<(m:Int):=by omega
   clear HD;go_wp2;go_roundw
   case rel=>exact⟨m / 10,f',dig m :: s,by go_num,by rw [HE.out],by omega,by simp;omega,HN,HB1 _⟩
   case measure=>simp [intOf];omega
  ·obtain rfl:m=0:=by omega
   have HE:Hid (B [109]++B s=markS k):=by
    show _=_;rw [B_app];unfold markS;rw [HD.out,mdig_zero];rfl
   have HE2:Hid ((⟨#[109]⟩:ByteArray)=B [109]):=rfl;go_wp2;go_ret;exact⟨by rw [← HE.out];rfl,HB.out⟩
/-! ### cells, one behind the other -/
structure Fill(w:World)(b n:Nat)(f:Nat→Value)(m:Nat):Prop where
 lt:b<w.heap.size
 rd:∀i,i<m→w.cell? ⟨b,i,none⟩=some (f i)
 ex:∀i,i<n*4→∃v,w.cell? ⟨b,i,none⟩=some v
 fr:∀i,i<n*4→w.frozen? ⟨b,i,none⟩=false
theorem Fill.below{w w':World}{b n m:Nat}{f:Nat→Value}(h:Fill w b n f m)(hb:Below w.heap.size w w'):Fill w' b n f m where
 lt:=Nat.lt_of_lt_of_le h.lt hb.size
 rd:=fun i hi=>(hb.cell (p:=⟨b,i,none⟩) h.lt).trans (h.rd i hi)
 ex:=fun i hi=>by obtain⟨v,hv⟩:=h.ex i hi;exact⟨v,(hb.cell (p:=⟨b,i,none⟩) h.lt).trans hv⟩
 fr:=fun i hi=>(hb.frozen (p:=⟨b,i,none⟩) h.lt).trans (h.fr i hi)
end Lc
namespace Bk
open Lc (markS markText)
structure At2(w:World)(b o n:Nat)(f:Nat→Value):Prop where
 lt:b<w.heap.size
 rd:∀i,i<n*2→w.cell? ⟨b,o+i,none⟩=some (f i)
 fr:∀i,i<n*2→w.frozen? ⟨b,o+i,none⟩=false
section
variable {w w':World} {b o n:Nat} {f:Nat→Value}
theorem At2.below(h:At2 w b o n f)(hb:Below w.heap.size w w'):At2 w' b o n f:=
 ⟨Nat.lt_of_lt_of_le h.lt hb.size,fun i hi=>(hb.cell (p:=⟨b,o+i,none⟩) h.lt).trans (h.rd i hi),fun i hi=>(hb.frozen (p:=⟨b,o+i,none⟩) h.lt).trans (h.fr i hi)⟩
theorem At2.keep{r:Option Nat}(h:At2 w b o n f)(hg:w.grownBy w' r)(hne:r≠some b):At2 w' b o n f:=
 ⟨Nat.lt_of_lt_of_le h.lt hg.size,fun i hi=>(hg.cell_far ⟨b,o+i,none⟩ h.lt (fun e=>hne e.symm)).trans (h.rd i hi),fun i hi=>(hg.frozen_far ⟨b,o+i,none⟩ h.lt (fun e=>hne e.symm)).trans (h.fr i hi)⟩
theorem At2.put(h:At2 w b o n f)(m:Nat)(hm:m<n*2)(v:Value):At2 (w.setCell ⟨b,o+m,none⟩ v) b o n (fun i=>if i=m then v else f i):=by
 refine⟨by simpa using h.lt,fun i hi=>?_,fun i hi=>by simpa using h.fr i hi⟩;by_cases e:i=m
 ·subst e;rw [if_pos rfl];exact World.cell?_setCell_same _ _ _ (h.rd i hi)
 ·rw [if_neg e];exact(World.cell?_setCell_other _ _ _ _ (fun q=>e (by have:=congrArg Addr.off q;simp at this;omega))).trans (h.rd i hi)
theorem At2.to{g:Nat→Value}(h:At2 w b o n f)(hg:∀i,i<n*2→f i=g i):At2 w b o n g:=⟨h.lt,fun i hi=>(h.rd i hi).trans (congrArg some (hg i hi)),h.fr⟩
end
def cellM(i:Nat):Value:=if i % 2=0 then .string (markS (1+i)) else .int .i64 ((1+i:Nat):Int)
def mixM(f:Nat→Value)(m i:Nat):Value:=if i<m then cellM i else f i
theorem cellM_s(j:Nat):cellM (j*2)=.string (markS (1+j*2)):=by unfold cellM;rw [if_pos (by omega)]
theorem cellM_i(j:Nat):cellM (j*2+1)=.int .i64 (1+(j:Int)*2+1):=by
 unfold cellM;rw [if_neg (by omega)];congr 1;try omega
theorem mix_put{f:Nat→Value}{m i:Nat}{v:Value}(hv:v=cellM m):(if i=m then v else mixM f m i)=mixM f (m+1) i:=by
 unfold mixM;by_cases e:i=m
 ·subst e;rw [if_pos rfl,if_pos (by omega),hv]
 ·rw [if_neg e];by_cases h:i<m
  ·rw [if_pos h,if_pos (by omega)]
  ·rw [if_neg h,if_neg (by omega)]
def MkE(w:World)(ao:Option Addr)(n:Nat)(f:Nat→Value):Prop:=n=0∨∃b o,ao=some ⟨b,o,none⟩∧At2 w b o n f
theorem MkE.below{w w':World}{ao:Option Addr}{n:Nat}{f:Nat→Value}(h:MkE w ao n f)(hb:Below w.heap.size w w'):MkE w' ao n f:=by
 rcases h with h | ⟨b,o,e,h⟩
 ·exact .inl h
 ·exact .inr ⟨b,o,e,h.below hb⟩
theorem MkE.keep{w w':World}{ao:Option Addr}{n:Nat}{f:Nat→Value}{r:Option Nat}(h:MkE w ao n f)(hg:w.grownBy w' r)(hne:∀b o,ao=some ⟨b,o,none⟩→r≠some b):MkE w' ao n f:=by
 rcases h with h | ⟨b,o,e,h⟩
 ·exact .inl h
 ·exact .inr ⟨b,o,e,h.keep hg (hne b o e)⟩
def MarkPost(ao:Option Addr)(n:Nat)(w:World)(e:Ending)(w':World):Prop:=e=.returned (.int .i64 (1+(n:Int)*2))∧MkE w' ao n cellM∧∃r:Option Nat,(∀b,r=some b→∃o,ao=some ⟨b,o,none⟩)∧w.grownBy w' r
theorem markEntryS(ao:Option Addr)(n cap:Nat)(f:Nat→Value)(w:World)(hn:n≤1048600)(h:MkE w ao n f):Calls Try.prog 22 #[.slice ao n cap,.int .i64 1] w (MarkPost ao n w):=by
 rcases h with rfl | ⟨b,o,rfl,h⟩
 · go_enter Try.func22,Try.ntmps22
   go_wp2;go_loopw [1,5] (fun k i wr=>i=.int .i64 0∧k=.int .i64 1∧wr=w) (fun _ _ _=>0)
   case atStart=>exact⟨rfl,rfl,rfl⟩
   case round=>
     obtain⟨rfl,rfl,rfl⟩:=hrel;go_wp2;go_ret;exact⟨by simp,.inl rfl,none,(fun b e=>by cases e),World.grownBy.refl _ _⟩
 · have HZ:Hid (At2 w b o n (mixM f 0)):=h.to (fun i hi=>by unfold mixM;rw [if_neg (by omega)]);clear h;go_enter Try.func22,Try.ntmps22
   go_wp2;go_loopw [1,5] (fun k i wr=>∃j:Nat,j≤n∧i=.int .i64 (j:Int)∧k=.int .i64 (1+(j:Int)*2)∧Hid (At2 wr b o n (mixM f (j*2)))∧Hid (w.grownBy wr (some b))) (fun _ i _=>n-(intOf i).toNat)
   case atStart=>exact⟨0,by omega,rfl,rfl,HZ,World.grownBy.refl _ _⟩
   case round=>
     clear HZ;obtain⟨j,hj,rfl,rfl,HF,HG⟩:=hrel;by_cases hlt:j<n
     · have ek:(1+(j:Int)*2)=((1+j*2:Nat):Int):=by omega
       have hmt:Calls Try.prog 42 #[.int .i64 (1+(j:Int)*2)] wr fun e w'=>e=.returned (.string (markS (1+j*2)))∧Below wr.heap.size wr w':=by
         rw [ek];exact markText (1+j*2) (by omega) (by omega) wr
       have HMT:Hid (_):=hmt;clear ek hmt;go_wp2_with fail
       refine Calls.mono HMT.out ?_;rintro e w4 ⟨rfl,hb4⟩;have F0:=HF.out.below hb4;have G0:Hid (w.grownBy w4 (some b)):=grown_trans HG.out (grown_of_below hb4 _);have e0:=F0.rd (j*2) (by omega);have f0:=F0.fr (j*2) (by omega);have F1:=F0.put (j*2) (by omega) (.string (markS (1+j*2)));have e1:=F0.rd (j*2+1) (by omega);have f1:=F0.fr (j*2+1) (by omega);rw [← Nat.add_assoc] at e1 f1;have F2:=F1.put (j*2+1) (by omega) (.int .i64 (1+(j:Int)*2+1));have HF2:Hid (At2 ((w4.setCell ⟨b,o+j*2,none⟩ (.string (markS (1+j*2)))).setCell ⟨b,o+j*2+1,none⟩ (.int .i64 (1+(j:Int)*2+1))) b o n (mixM f ((j+1)*2))):=by
         have := F2.to (g := mixM f ((j + 1) * 2)) (fun i hi=>by
           have a:=mix_put (f:=f) (m:=j*2) (i:=i) (v:=.string (markS (1+j*2))) (cellM_s j).symm;have b:=mix_put (f:=f) (m:=j*2+1) (i:=i) (v:=.int .i64 (1+(j:Int)*2+1)) (cellM_i j).symm;have e:(j+1)*2=j*2+1+1:=by omega
           rw [e,← b,← a])
         rwa [← Nat.add_assoc] at this
       have HG2:Hid (w.grownBy ((w4.setCell ⟨b,o+j*2,none⟩ (.string (markS (1+j*2)))).setCell ⟨b,o+j*2+1,none⟩ (.int .i64 (1+(j:Int)*2+1))) (some b)):=grown_set (grown_set G0.out _ _) _ _;clear F0 F1 F2 HF HG hb4 HMT G0;generalize mixM f (j*2)=fm at *;go_wp2;go_roundw
       case rel=>exact⟨j+1,by omega,by go_num,by congr 1;omega,HF2,HG2⟩
       case measure=>simp [intOf];omega
     · obtain rfl:j=n:=by omega
       have HE:Hid (At2 wr b o j cellM):=HF.out.to (fun i hi=>by unfold mixM;rw [if_pos (by omega)]);clear HF;go_wp2;go_ret;exact⟨rfl,.inr ⟨b,o,rfl,HE.out⟩,some b,(fun b' e=>by injection e with e;subst e;exact⟨o,rfl⟩),HG.out⟩
theorem heldEntryS(ao:Option Addr)(n cap:Nat)(w:World)(hn:n≤1048600)(h:MkE w ao n cellM):Calls Try.prog 23 #[.slice ao n cap,.int .i64 1] w fun e w'=>e=.returned (.int .i64 (1+(n:Int)*2))∧Below w.heap.size w w':=by
 go_enter Try.func23,Try.ntmps23
 go_wp2;go_loopw [1,5] (fun k i wr=>∃j:Nat,j≤n∧i=.int .i64 (j:Int)∧k=.int .i64 (1+(j:Int)*2)∧Hid (Below w.heap.size w wr)) (fun _ i _=>n-(intOf i).toNat)
 case atStart=>exact⟨0,by omega,rfl,rfl,Below.refl _ _⟩
 case round=>
   obtain⟨j,hj,rfl,rfl,HB⟩:=hrel;by_cases hlt:j<n
   · obtain ⟨b, o, rfl, h2⟩ := (show ∃b o,ao=some ⟨b,o,none⟩∧At2 w b o n cellM by
       rcases h with h | h
       · omega
       · exact h)
     have F0:=h2.below HB.out;have c0:=(F0.rd (j*2) (by omega)).trans (congrArg some (cellM_s j));have c1:=(F0.rd (j*2+1) (by omega)).trans (congrArg some (cellM_i j));rw [← Nat.add_assoc] at c1;have hbl:=F0.lt;obtain⟨X,_,F,HF,HG⟩:=Fam.fam wr;have d0:∀z,(F z).cell? ⟨b,o+j*2,none⟩=some (.string (markS (1+j*2))):=fun z=>((HF.out z).cell (p:=⟨b,o+j*2,none⟩) hbl).trans c0
     have D1:Hid (∀z,(F z).cell? ⟨b,o+j*2+1,none⟩=some (.int .i64 (1+(j:Int)*2+1))):=fun z=>((HF.out z).cell (p:=⟨b,o+j*2+1,none⟩) hbl).trans c1
     have ek:(1+(j:Int)*2)=((1+j*2:Nat):Int):=by omega
     have HMT:Hid (∀V:World,Calls Try.prog 42 #[.int .i64 (1+(j:Int)*2)] V fun e w'=>e=.returned (.string (markS (1+j*2)))∧Below V.heap.size V w'):=by
       intro V;rw [ek];exact markText (1+j*2) (by omega) (by omega) V
     clear ek F0 c0 c1 h h2;generalize markS (1+j*2)=ms at HMT d0;go_wp2_with fail
     refine Fam.region (F:=F) (by kernel_rfl) (by kernel_rfl) (HG.out _ (Below.refl _ wr).drew) ?_
     repeat (go_big_quiet_step (first
       | (go_at_call 42;exact(HMT.out _).mono fun _ _ h=>⟨h.1,HG.out _ ((HF.out _).trans (h.2.mono (HF.out _).size))⟩)))
     refine wpQuiet_nil ?_;intro w2 hw2;obtain⟨z,rfl⟩:=hw2;have HB2:Hid (Below w.heap.size w (F z)):=HB.out.trans ((HF.out z).mono HB.out.size);have d1:=D1.out z;clear d0;go_wp2;go_roundw
     case rel=>exact⟨j+1,by omega,by go_num,by congr 1;omega,HB2⟩
     case measure=>simp [intOf];omega
   · obtain rfl:j=n:=by omega
     go_wp2;go_ret;exact⟨rfl,HB.out⟩
structure CpE(lo hi:Nat)(w:World)(ao:Option Addr)(L:List En):Prop where
 mq:MkE w ao L.length (fun i=>(flatE L).getD i default)
 bl:∀b o,ao=some ⟨b,o,none⟩→lo≤b∧b<hi
 hw:hi≤w.heap.size
theorem CpE.below{lo hi:Nat}{w w':World}{ao:Option Addr}{L:List En}(h:CpE lo hi w ao L)(hb:Below w.heap.size w w'):CpE lo hi w' ao L:=⟨h.mq.below hb,h.bl,Nat.le_trans h.hw hb.size⟩
theorem CpE.keep{lo hi:Nat}{w w':World}{ao:Option Addr}{L:List En}{r:Option Nat}(h:CpE lo hi w ao L)(hg:w.grownBy w' r)(hr:∀b,r=some b→b<lo∨hi≤b):CpE lo hi w' ao L:=
 ⟨h.mq.keep hg (fun b o e q=>by have:=h.bl b o e;have:=hr b q;omega),h.bl,Nat.le_trans h.hw hg.size⟩
theorem CpE.rd{lo hi:Nat}{w:World}{ao:Option Addr}{L:List En}(h:CpE lo hi w ao L):RdE w ao L:=by
 rcases h.mq with e | ⟨b,o,e,a⟩
 ·exact .inl (List.length_eq_zero_iff.1 e)
 ·refine .inr ⟨b,o,e,a.lt,fun i hi=>?_⟩;have g0:=flatE_at L i 0 hi (by omega);have g1:=flatE_at L i 1 hi (by omega);rw [Nat.add_zero] at g0;refine⟨(a.rd (i*2) (by omega)).trans ?_,?_⟩
  ·simp only [List.getD,g0];rfl
  ·have:=a.rd (i*2+1) (by omega);rw [← Nat.add_assoc] at this;refine this.trans ?_;simp only [List.getD,g1];rfl
theorem at_of_rd{w:World}{g o:Nat}{L:List En}(h:RdE w (some ⟨g,o,none⟩) L)(hg:g<w.heap.size)(hf:∀i,i<L.length*2→w.frozen? ⟨g,o+i,none⟩=false):At2 w g o L.length (fun i=>(flatE L).getD i default):=by
 refine⟨hg,fun i hi=>?_,hf⟩;have hl:i<(flatE L).length:=by rw [flatE_len];exact hi
 have:=rdE_news h i (flatE L)[i] (List.getElem?_eq_getElem hl);rw [WideShapes.add_plain] at this;rw [this];simp [List.getD,hl]
theorem cpE_to{w w':World}{L:List En}(h:Made w' w.heap.size L.length L L.length)(hb:Below w.heap.size w w'):CpE w.heap.size w'.heap.size w' (some ⟨w.heap.size,0,none⟩) L:=
 ⟨.inr ⟨_,0,rfl,at_of_rd (made_rd h) h.lt (fun i _=>by rw [Nat.zero_add];exact h.fr i)⟩,fun b o e=>by injection e with e;injection e with e;subst e;exact⟨Nat.le_refl _,h.lt⟩,Nat.le_refl _⟩
theorem cpE_own{B g c:Nat}{w:World}{L:List En}(h:OwE B w g c L):CpE B w.heap.size w (some ⟨g,0,none⟩) L:=
 ⟨.inr ⟨_,0,rfl,at_of_rd h.rd h.shape.2.2.2 (fun i _=>by rw [Nat.zero_add];exact h.frozen i)⟩,fun b o e=>by injection e with e;injection e with e;subst e;exact⟨h.shape.2.2.1,h.shape.2.2.2⟩,Nat.le_refl _⟩
end Bk
end
section
namespace Sg
open Kn (K)
open Bit (bit)
open Lc (at')
def orB(a b:Int):Int:=((a.toNat ||| b.toNat:Nat):Int)
def accB(f:Int)(l:List Int)(i:Nat):Nat→Int
 | 0=>2 ^ i
 | k+1=>if bit f k then orB (accB f l i k) (l.getD k 0) else accB f l i k
def belows(L:List K):Nat→List Int
 | 0=>[]
 | n+1=>belows L n++[accB (at' L n).frm (belows L n) n n]
end Sg
end
section
namespace Kn
end Kn
end
section
namespace Lc
open Kn (K)
open Bit (bit)
end Lc
end
section
namespace Sg
open Kn (K)
open Bit (bit)
open Lc (at' RdK)
end Sg
end
section
namespace Sg
open Kn (K)
open Bit (bit)
open Lc (at')
def bel(L:List K)(i:Nat):Int:=(belows L (i+1)).getD i 0
end Sg
end
section
namespace Db
open Kn (K)
open Bit (bit)
open Lc (at' RdK)
structure RowI(w:World)(g n:Nat)(D:Nat→Int):Prop where
 lt:g<w.heap.size
 rd:∀i,i<n→w.cell? ⟨g,i,none⟩=some (.int .i64 (D i))
 fr:∀i,i<n→w.frozen? ⟨g,i,none⟩=false
theorem RowI.drew{w:World}{g n:Nat}{D:Nat→Int}(h:RowI w g n D):RowI w.drew g n D:=⟨h.lt,h.rd,h.fr⟩
end Db
end
section
namespace Lsx
end Lsx
end
section
namespace Nu
open Kn (K)
open Db (RowI)
def RdI(w:World)(ao:Option Addr)(C:List Int):Prop:=C=[]∨∃g off,ao=some ⟨g,off,none⟩∧g<w.heap.size∧∀j,j<C.length→w.cell? ⟨g,off+j,none⟩=some (.int .i64 (C.getD j 0))
theorem RdI.below{w w':World}{ao:Option Addr}{C:List Int}(h:RdI w ao C)(hb:Below w.heap.size w w'):RdI w' ao C:=by
 rcases h with h | ⟨g,off,e,hg,hc⟩
 ·exact .inl h
 ·exact .inr ⟨g,off,e,Nat.lt_of_lt_of_le hg hb.size,fun j hj=>(hb.cell (p:=⟨g,off+j,none⟩) hg).trans (hc j hj)⟩
end Nu
namespace Bk
open Cur (At)
open De (D okD)
theorem doB_len{L:List En}{d:D}:(doB L d).1.length≤L.length+1:=by
 have:=findN_le L d.key;unfold doB doC;split
 ·split
  ·simp
  ·split
   ·simp
   ·simp;omega
 ·split
  ·simp
  ·split
   ·simp;omega
   ·split
    ·split <;> simp
    ·split <;> simp
end Bk
end
end Go.Proofs.Ytadbafppodhfpaa
