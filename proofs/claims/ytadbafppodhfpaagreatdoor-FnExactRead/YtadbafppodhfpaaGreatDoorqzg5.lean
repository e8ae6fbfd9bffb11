/-
 What the laws on books answer where the program's functions answer as they should: FnRead, true at every code.
-/
import Derived.Test.YtadbafppodhfpaaGreatDoorqzg4
import Derived.BigRegion
set_option linter.unusedVariables false
set_option maxRecDepth 100000
set_option maxHeartbeats 12800000
namespace Go.Proofs.YtadbafppodhfpaaGreatDoor
open Go.RowKit
section
namespace De
open Cur (At)
open Kn (dec B grown_put code_lt lit_str)
structure ZeD(b:Nat)(w:World):Prop where
 lt:b<w.heap.size
 r0:w.cell? ⟨b,0,none⟩=some (.int .i64 0)
 r1:w.cell? ⟨b,1,none⟩=some (.string ⟨#[]⟩)
 r2:w.cell? ⟨b,2,none⟩=some (.int .i64 0)
 r3:w.cell? ⟨b,3,none⟩=some (.int .i64 0)
 rf:∀j,w.frozen? ⟨b,j,none⟩=false
theorem zeD_new(w:World)(t:TypeId):ZeD w.heap.size (w.alloc (.cells #[.int .i64 0,.string ⟨#[]⟩,.int .i64 0,.int .i64 0] t)):=by
 obtain⟨a,b,c,d,e,f⟩:=zd_new w t;exact⟨a,b,c,d,e,f⟩
theorem ZeD.grown{c b:Nat}{w w':World}(z:ZeD b w)(hg:w.grownBy w' (some c))(hn:b≠c):ZeD b w' where
 lt:=Nat.lt_of_lt_of_le z.lt hg.size
 r0:=Draw.kept_cell hg hn z.r0
 r1:=Draw.kept_cell hg hn z.r1
 r2:=Draw.kept_cell hg hn z.r2
 r3:=Draw.kept_cell hg hn z.r3
 rf:=fun j=>(hg.frozen_far ⟨b,j,none⟩ z.lt (by simpa using hn)).trans (z.rf j)
structure StD(c b0 kb:Nat)(a:Option Addr)(len cap:Nat)(w0 w:World)(k:Int)(s:ByteArray)(v n:Int):Prop where
 at':At c a len cap w
 t:TwoD b0 kb w k s v n
 n1:b0≠c
 n2:kb≠c
 l1:w0.heap.size≤b0
 l2:w0.heap.size≤kb
 cb:len=0∨∃b off,a=some ⟨b,off,none⟩∧b<w0.heap.size
 g:w0.grownBy w (some c)
section
variable {c b0 kb:Nat} {a:Option Addr} {len cap:Nat} {w0 w w':World} {k:Int} {s:ByteArray} {v n:Int}
theorem StD.grown(t:StD c b0 kb a len cap w0 w k s v n)(hg:w.grownBy w' (some c))(hA:At c a len cap w'):StD c b0 kb a len cap w0 w' k s v n where
 at':=hA
 t := ⟨t.t.bx,Nat.lt_of_lt_of_le t.t.lt hg.size,Draw.kept_cell hg t.n1 t.t.r0,Draw.kept_cell hg t.n1 t.t.r1,Draw.kept_cell hg t.n1 t.t.r2,Draw.kept_cell hg t.n1 t.t.r3,
   fun j=>(hg.frozen_far ⟨b0,j,none⟩ (Nat.lt_trans t.t.bx t.t.lt) (by simpa using t.n1)).trans (t.t.rf j),
   Draw.kept_cell hg t.n2 t.t.k0,Draw.kept_cell hg t.n2 t.t.k1,Draw.kept_cell hg t.n2 t.t.k2,Draw.kept_cell hg t.n2 t.t.k3,
   fun j=>(hg.frozen_far ⟨kb,j,none⟩ t.t.lt (by simpa using t.n2)).trans (t.t.kf j)⟩
 n1:=t.n1
 n2:=t.n2
 l1:=t.l1
 l2:=t.l2
 cb:=t.cb
 g:=Cur.grownBy_trans t.g hg
theorem StD.put(t:StD c b0 kb a len cap w0 w k s v n){k' v' n':Int}{s':ByteArray}(j:Nat)(u:Value)(h:TwoD b0 kb (w.setCell ⟨kb,j,none⟩ u) k' s' v' n'):StD c b0 kb a len cap w0 (w.setCell ⟨kb,j,none⟩ u) k' s' v' n':=
 ⟨Kn.At.put t.at' t.n2 t.cb t.l2 j _,h,t.n1,t.n2,t.l1,t.l2,t.cb,grown_put t.g t.l2 j _⟩
theorem StD.final(t:StD c b0 kb a len cap w0 w k s v n)(v0 v1 v2 v3:Value) :
  At c a len cap ((((w.setCell ⟨b0,0,none⟩ v0).setCell ⟨b0,1,none⟩ v1).setCell ⟨b0,2,none⟩ v2).setCell ⟨b0,3,none⟩ v3)∧w0.grownBy ((((w.setCell ⟨b0,0,none⟩ v0).setCell ⟨b0,1,none⟩ v1).setCell ⟨b0,2,none⟩ v2).setCell ⟨b0,3,none⟩ v3) (some c):=
 ⟨Kn.At.put (Kn.At.put (Kn.At.put (Kn.At.put t.at' t.n1 t.cb t.l1 _ _) t.n1 t.cb t.l1 _ _) t.n1 t.cb t.l1 _ _) t.n1 t.cb t.l1 _ _,grown_put (grown_put (grown_put (grown_put t.g t.l1 _ _) t.l1 _ _) t.l1 _ _) t.l1 _ _⟩
end
def DrawPost(c:Nat)(a:Option Addr)(len cap:Nat)(w:World)(e:Ending)(w':World):Prop:=∃(k:Int) (s:ByteArray) (v n:Int),e=.returned (.agg #[.int .i64 k,.string s,.int .i64 v,.int .i64 n])∧s.size≤4∧At c a len cap w'∧w.grownBy w' (some c)
theorem l1From(c:Nat)(a:Option Addr)(len cap:Nat)(lo hi:Int)(w:World)(hl:len≤4096)(h0:-10≤lo)(h1:lo≤hi)(h2:hi≤100)(hc:At c a len cap w) :
  Calls Tryz.prog 42 #[.pointer (some ⟨c,0,none⟩),.int .i64 lo,.int .i64 hi] w fun e w'=>∃x:Int,e=.returned (.int .i64 x)∧At c a len cap w'∧w.grownBy w' (some c):=by
 have hw1:IntKind.i64.wrap (hi-lo)=hi-lo:=by rw [IntKind.wrap_i64];omega
 have hw2:IntKind.i64.wrap (hi-lo+1)=hi-lo+1:=by rw [IntKind.wrap_i64];omega
 go_enter Tryz.func42,Tryz.ntmps42
 go_wp2_with fail
 refine(Cur.below c a len cap _ _ hl (by omega) hc).mono ?_;rintro e w1 ⟨x,rfl,hx0,hx1,hA1,hG1⟩;have hx2:=hx1 (by omega);go_wp2;go_ret;exact⟨_,rfl,hA1,hG1⟩
theorem l16Draw(c:Nat)(a:Option Addr)(len cap:Nat)(w:World)(hl:len≤4096)(hc:At c a len cap w) :
  Calls Tryz.prog 28 #[.pointer (some ⟨c,0,none⟩)] w (DrawPost c a len cap w):=by
 have hclt:=hc.lt;have hcode:=code_lt hc;have P0:Hid (w.grownBy (w.alloc (.cells #[.int .i64 0,.string ⟨#[]⟩,.int .i64 0,.int .i64 0] 34)) (some c)∧ZeD w.heap.size (w.alloc (.cells #[.int .i64 0,.string ⟨#[]⟩,.int .i64 0,.int .i64 0] 34))∧At c a len cap (w.alloc (.cells #[.int .i64 0,.string ⟨#[]⟩,.int .i64 0,.int .i64 0] 34))):=⟨World.grownBy_alloc _ _ _,zeD_new w _,Draw.at_alloc hc _⟩
 go_enter Tryz.func28,Tryz.ntmps28
 go_wp2_with fail
 generalize w.alloc (.cells #[.int .i64 0,.string ⟨#[]⟩,.int .i64 0,.int .i64 0] 34)=w0 at P0 ⊢;obtain⟨G0,Z0,A0⟩:=P0;refine(Cur.below c a len cap 4 _ hl (by omega) A0).mono ?_;rintro e w1 ⟨x,rfl,hx0,hx1,A1,g1⟩;have hx2:=hx1 (by omega);have G1:=Cur.grownBy_trans G0 g1;have Z1:=Z0.grown g1 (by omega);clear g1 A0 Z0 G0 hx1;go_wp2_with fail
 refine(Cur.below c a len cap 4 _ hl (by omega) (Draw.at_alloc A1 _)).mono ?_;rintro e w2 ⟨y,rfl,hy0,hy1,A2,g2⟩;have hy2:=hy1 (by omega);obtain⟨s,hs,hss⟩:=lit_str (l:=[⟨#[97]⟩,⟨#[98]⟩,⟨#[99]⟩,⟨#[100,100]⟩]) A1.lt g2 y.toNat (by simp;omega) 4 (by decide);have G2:=Cur.grownBy_trans (Cur.grownBy_trans G1 (World.grownBy_alloc _ _ _)) g2;have Z2:=(Z1.grown (World.grownBy_alloc _ _ (some c)) (by omega)).grown g2 (by omega);clear g2 A1 Z1 G1 hy1;have S3:Hid (StD c w.heap.size w2.heap.size a len cap w (w2.alloc (.cells #[.int .i64 (1+x),.string s,.int .i64 0,.int .i64 0] 34)) (1+x) s 0 0):=by
  have ga:=World.grownBy_alloc w2 (.cells #[.int .i64 (1+x),.string s,.int .i64 0,.int .i64 0] 34) (some c);have Z3:=Z2.grown ga (by omega);exact⟨Draw.at_alloc A2 _,⟨Z2.lt,by simp,Z3.r0,Z3.r1,Z3.r2,Z3.r3,Z3.rf,by simp,by simp,by simp,by simp,fun j=>by simp⟩,by omega,by have:=A2.lt;omega,Nat.le_refl _,G2.size,hcode,Cur.grownBy_trans G2 ga⟩
 clear A2 Z2 G2;go_upto_region 2 with fail
 generalize w2.alloc (.cells #[.int .i64 (1+x),.string s,.int .i64 0,.int .i64 0] 34)=w3 at S3 ⊢;generalize w2.heap.size=kb at S3 ⊢;have S:=S3.out;clear S3 hs;generalize w1.heap.size=b1 at *;obtain⟨kn,hkn⟩:∃kn,1+x=kn:=⟨_,rfl⟩
 rw [hkn] at S ⊢;clear hkn;have k0:=S.t.k0;rcases(show kn=2∨kn=4∨(kn≠2∧kn≠4) by omega) with rfl | rfl | ⟨hx1,hx3⟩
 case' inl=>
  go_upto_region 6 with fail
  have SS:Hid (∃k v n,StD c w.heap.size kb a len cap w w3 k s v n):=⟨_,_,_,S⟩
  clear S k0;generalize hW:w3=W at SS ⊢;clear hW
 case' inr.inl=>
  go_wp2_with fail
  refine(Cur.below c a len cap 4 _ hl (by omega) S.at').mono ?_;rintro e w25 ⟨z2,rfl,_,_,A5,g5⟩;replace S:=S.grown g5 A5;clear A5 g5 k0;have kk:=S.t.k2;have ff:=S.t.kf 2;have HP:Hid (StD c w.heap.size kb a len cap w (_) 4 s z2 0):=S.put 2 _ (S.t.set2 z2);clear S;go_upto_region 4 with fail
  generalize World.setCell _ _ _=w4 at HP ⊢;clear kk ff;have S:=HP.out;clear HP;have k0:=S.t.k0;go_wp2_with fail
  refine(Cur.below c a len cap 4 _ hl (by omega) S.at').mono ?_;rintro e w35 ⟨z3,rfl,_,_,A5,g5⟩;replace S:=S.grown g5 A5;clear A5 g5 k0;have kk:=S.t.k3;have ff:=S.t.kf 3;have HP:Hid (StD c w.heap.size kb a len cap w (_) 4 s z2 z3):=S.put 3 _ (S.t.set3 z3);clear S;go_upto_region 6 with fail
  generalize World.setCell _ _ _=W at HP ⊢;clear kk ff;have S:=HP.out;clear HP;have k0:=S.t.k0;have SS:Hid (∃k v n,StD c w.heap.size kb a len cap w W k s v n):=⟨_,_,_,S⟩
  clear S k0
 case' inr.inr=>
  have hk2:(kn != 2)=true:=by simpa using hx1
  have hk4:(kn == 4)=false:=by simpa using hx3
  go_wp2_with fail
  refine(Cur.below c a len cap 4 _ hl (by omega) S.at').mono ?_;rintro e w25 ⟨z2,rfl,_,_,A5,g5⟩;replace S:=S.grown g5 A5;clear A5 g5 k0;have kk:=S.t.k2;have ff:=S.t.kf 2;have HP:Hid (StD c w.heap.size kb a len cap w (_) kn s z2 0):=S.put 2 _ (S.t.set2 z2);clear S;go_upto_region 4 with fail
  generalize World.setCell _ _ _=w4 at HP ⊢;clear kk ff;have S:=HP.out;clear HP;have k0:=S.t.k0;go_upto_region 6 with fail
  generalize hW:w4=W at S ⊢;clear hW;have SS:Hid (∃k v n,StD c w.heap.size kb a len cap w W k s v n):=⟨_,_,_,S⟩
  clear S k0 hk2 hk4
 all_goals
  obtain⟨k,v,n,S⟩:=SS.out;clear SS;go_wp2_with fail
  refine(Cur.once c a len cap 8 _ hl (by omega) S.at').mono ?_;rintro e w7 ⟨b,rfl,A7,g7⟩;replace S:=S.grown g7 A7;clear A7 g7
  cases b
  ·obtain⟨_,_,r0,r1,r2,r3,rf,k0,k1,k2,k3,_⟩:=S.t;have rf0:=rf 0;have rf1:=rf 1;have rf2:=rf 2;have rf3:=rf 3;have HQ:Hid (_):=put4D r0 r1 r2 r3 (.int .i64 k) (.string s) (.int .i64 v) (.int .i64 n);have HF:Hid (_):=S.final (.int .i64 k) (.string s) (.int .i64 v) (.int .i64 n);clear rf S;go_wp2;obtain⟨q0,q1,q2,q3⟩:=HQ.out;exact bodyPost_ret (v:=.agg #[.int .i64 k,.string s,.int .i64 v,.int .i64 n]) (by simp [results,Tryz.results28,go_sem,q0,q1,q2,q3]) rfl ⟨k,s,v,n,rfl,hss,HF.out.1,HF.out.2⟩
  ·go_wp2_with fail
   refine(Cur.below c a len cap 4 _ hl (by omega) S.at').mono ?_;rintro e w8 ⟨y8,rfl,hy80,hy81,A8,g8⟩;replace S:=S.grown g8 A8;have hy82:=hy81 (by omega);clear A8 g8 hy81;rcases(show y8=0∨y8=1∨y8=2∨y8=3 by omega) with rfl | rfl | rfl | rfl
   ·go_wp2_with fail
    refine(l1From c a len cap (-1) 6 _ hl (by omega) (by omega) (by omega) S.at').mono ?_;rintro e w9 ⟨z,rfl,A9,g9⟩;replace S:=S.grown g9 A9;clear A9 g9;have kk:=S.t.k0;have ff:=S.t.kf 0;have HP:Hid (StD c w.heap.size kb a len cap w (_) z s v n):=S.put 0 _ (S.t.set0 z);clear S;go_upto_region 16 with fail
    generalize World.setCell _ _ _=W9 at HP ⊢;clear kk ff;have S:=HP.out;clear HP;obtain⟨_,_,r0,r1,r2,r3,rf,k0,k1,k2,k3,_⟩:=S.t;have rf0:=rf 0;have rf1:=rf 1;have rf2:=rf 2;have rf3:=rf 3;have HQ:Hid (_):=put4D r0 r1 r2 r3 (.int .i64 z) (.string s) (.int .i64 v) (.int .i64 n);have HF:Hid (_):=S.final (.int .i64 z) (.string s) (.int .i64 v) (.int .i64 n);clear rf S;go_wp2;obtain⟨q0,q1,q2,q3⟩:=HQ.out;exact bodyPost_ret (v:=.agg #[.int .i64 z,.string s,.int .i64 v,.int .i64 n]) (by simp [results,Tryz.results28,go_sem,q0,q1,q2,q3]) rfl ⟨z,s,v,n,rfl,hss,HF.out.1,HF.out.2⟩
   ·go_wp2_with fail
    have A8':=Draw.at_alloc S.at' (.cells #[.string ⟨#[]⟩,.string ⟨#[65]⟩,.string ⟨#[97,98,99,100]⟩] 9);refine(Cur.below c a len cap 3 _ hl (by omega) A8').mono ?_;rintro e w9 ⟨x9,rfl,hx90,hx91,A9,g9⟩;have hx92:=hx91 (by omega);obtain⟨z,hz,hzs⟩:=lit_str (l:=[⟨#[]⟩,⟨#[65]⟩,⟨#[97,98,99,100]⟩]) S.at'.lt g9 x9.toNat (by simp;omega) 4 (by decide);replace S:=(S.grown (World.grownBy_alloc _ _ (some c)) A8').grown g9 A9;clear A8' A9 g9 hx91;have kk:=S.t.k1;have ff:=S.t.kf 1;have HP:Hid (StD c w.heap.size kb a len cap w (_) k z v n):=S.put 1 _ (S.t.set1 z);clear S;go_upto_region 16 with fail
    generalize World.setCell _ _ _=W9 at HP ⊢;clear kk ff;have S:=HP.out;clear HP;obtain⟨_,_,r0,r1,r2,r3,rf,k0,k1,k2,k3,_⟩:=S.t;have rf0:=rf 0;have rf1:=rf 1;have rf2:=rf 2;have rf3:=rf 3;have HQ:Hid (_):=put4D r0 r1 r2 r3 (.int .i64 k) (.string z) (.int .i64 v) (.int .i64 n);have HF:Hid (_):=S.final (.int .i64 k) (.string z) (.int .i64 v) (.int .i64 n);clear rf S;go_wp2;obtain⟨q0,q1,q2,q3⟩:=HQ.out;exact bodyPost_ret (v:=.agg #[.int .i64 k,.string z,.int .i64 v,.int .i64 n]) (by simp [results,Tryz.results28,go_sem,q0,q1,q2,q3]) rfl ⟨k,z,v,n,rfl,hzs,HF.out.1,HF.out.2⟩
   ·go_wp2_with fail
    have A8':=Draw.at_alloc S.at' (.cells #[.int .i64 (-1),.int .i64 99,.int .i64 100] 2);refine(Cur.below c a len cap 3 _ hl (by omega) A8').mono ?_;rintro e w9 ⟨x9,rfl,hx90,hx91,A9,g9⟩;have hx92:=hx91 (by omega);obtain⟨z,hz,hz0,hz1⟩:=Draw.lit_int (l:=[-1,99,100]) S.at'.lt g9 x9.toNat (by simp;omega) (by simp);replace S:=(S.grown (World.grownBy_alloc _ _ (some c)) A8').grown g9 A9;clear A8' A9 g9 hx91;have kk:=S.t.k2;have ff:=S.t.kf 2;have HP:Hid (StD c w.heap.size kb a len cap w (_) k s z n):=S.put 2 _ (S.t.set2 z);clear S;go_upto_region 16 with fail
    generalize World.setCell _ _ _=W9 at HP ⊢;clear kk ff;have S:=HP.out;clear HP;obtain⟨_,_,r0,r1,r2,r3,rf,k0,k1,k2,k3,_⟩:=S.t;have rf0:=rf 0;have rf1:=rf 1;have rf2:=rf 2;have rf3:=rf 3;have HQ:Hid (_):=put4D r0 r1 r2 r3 (.int .i64 k) (.string s) (.int .i64 z) (.int .i64 n);have HF:Hid (_):=S.final (.int .i64 k) (.string s) (.int .i64 z) (.int .i64 n);clear rf S;go_wp2;obtain⟨q0,q1,q2,q3⟩:=HQ.out;exact bodyPost_ret (v:=.agg #[.int .i64 k,.string s,.int .i64 z,.int .i64 n]) (by simp [results,Tryz.results28,go_sem,q0,q1,q2,q3]) rfl ⟨k,s,z,n,rfl,hss,HF.out.1,HF.out.2⟩
   ·go_wp2_with fail
    have A8':=Draw.at_alloc S.at' (.cells #[.int .i64 (-1),.int .i64 1,.int .i64 99,.int .i64 100] 2);refine(Cur.below c a len cap 4 _ hl (by omega) A8').mono ?_;rintro e w9 ⟨x9,rfl,hx90,hx91,A9,g9⟩;have hx92:=hx91 (by omega);obtain⟨z,hz,hz0,hz1⟩:=Draw.lit_int (l:=[-1,1,99,100]) S.at'.lt g9 x9.toNat (by simp;omega) (by simp);replace S:=(S.grown (World.grownBy_alloc _ _ (some c)) A8').grown g9 A9;clear A8' A9 g9 hx91;have kk:=S.t.k3;have ff:=S.t.kf 3;have HP:Hid (StD c w.heap.size kb a len cap w (_) k s v z):=S.put 3 _ (S.t.set3 z);clear S;go_upto_region 16 with fail
    generalize World.setCell _ _ _=W9 at HP ⊢;clear kk ff;have S:=HP.out;clear HP;obtain⟨_,_,r0,r1,r2,r3,rf,k0,k1,k2,k3,_⟩:=S.t;have rf0:=rf 0;have rf1:=rf 1;have rf2:=rf 2;have rf3:=rf 3;have HQ:Hid (_):=put4D r0 r1 r2 r3 (.int .i64 k) (.string s) (.int .i64 v) (.int .i64 z);have HF:Hid (_):=S.final (.int .i64 k) (.string s) (.int .i64 v) (.int .i64 z);clear rf S;go_wp2;obtain⟨q0,q1,q2,q3⟩:=HQ.out;exact bodyPost_ret (v:=.agg #[.int .i64 k,.string s,.int .i64 v,.int .i64 z]) (by simp [results,Tryz.results28,go_sem,q0,q1,q2,q3]) rfl ⟨k,s,v,z,rfl,hss,HF.out.1,HF.out.2⟩
theorem code_below{w w':World}{a:Option Addr}{len:Nat}(h:Cur.Code w a len)(hb:Below w.heap.size w w'):Cur.Code w' a len:=by
 rcases h with h | ⟨b,off,ha,hlt,hc⟩
 ·exact .inl h
 ·refine .inr ⟨b,off,ha,Nat.lt_of_lt_of_le hlt hb.size,fun j hj=>?_⟩;obtain⟨z,hz,hz'⟩:=hc j hj;exact⟨z,(hb.cell (p:=⟨b,off+j,none⟩) hlt).trans hz,hz'⟩
theorem textD_len(d:D):(textD d).size≤200:=by
 unfold textD
 cases h:okD d
 ·simp [ByteArray.size]
 ·rw [if_pos rfl,Kn.B_size];have o:=(okD_iff d).1 h;obtain⟨kind,key,val,new⟩:=d;obtain⟨k1,k4,kb,v0,v1,n0,n1,cut,ifs⟩:=o;dsimp only at k1 k4 kb v0 v1 n0 n1 cut ifs ⊢;have hks:key.data.toList.length≤3:=by
   unfold keyB at kb;simp at kb;have:key.data.toList.length=key.size:=by simp
   omega
  have lv:=Kn.dec_length 1 val.toNat (by omega) (by omega);have ln:=Kn.dec_length 1 new.toNat (by omega) (by omega);have hk:kind=1∨kind=2∨kind=3∨kind=4:=by omega
  rcases hk with rfl | rfl | rfl | rfl <;> simp [showD,wordsD,joinW,kindW] <;> simp at hks <;> omega
end De
namespace Bk
open Cur (At)
open De (D okD)
open Kn (code_lt)
section
variable {c:Nat} {a:Option Addr} {len cap:Nat} {w wr V:World} {g cb:Nat} {L:List En}
end
end Bk
namespace Bk
open Cur (At)
open De (D okD TwoD ZeD put4D put4B zeD_new code_below)
open Kn (code_lt)
open Tx (OwnT)
def DrawnR(w:World)(e:Ending)(w':World):Prop:=∃g cb S,e=.returned (.slice (some ⟨g,0,none⟩) (S:List ByteArray).length cb)∧S.length≤8∧(∀s∈S,s.size≤300)∧OwnT w.heap.size w' (some ⟨g,0,none⟩) cb S∧Below w.heap.size w w'
theorem list_T{ops:Array Oper}{rest:List Oper}{o:Oper}{a:Act}{w:World}{Q:Exit→Act→World→Prop}
  (hg:o.guard=none) (s x:Operand) (hop:o.op=Op.call { callee:=Callee.builtin Builtin.append,args:=#[s,x],argTypes:=#[24,24] })
  (B g c:Nat) (l:List ByteArray) (k:ByteArray) (b:Nat) (hs:a.eval s=.slice (some ⟨g,0,none⟩) l.length c) (hown:OwnT B w (some ⟨g,0,none⟩) c l) (hx:a.eval x=.slice (some ⟨b,0,none⟩) 1 1) (hc:w.cell? ⟨b,0,none⟩=some (.string k))
  (hsz:l.length≤4000000) (hB:B≤w.heap.size)
  (hK:∀g' c' w',OwnT B w' (some ⟨g',0,none⟩) c' (l++[k])→w.grownBy w' (some g)→wpList Tryz.prog ops Q rest (a.put o.dst (.slice (some ⟨g',0,none⟩) (l++[k]).length c')) w') :
  wpList Tryz.prog ops Q (o :: rest) a w:=by
 obtain⟨i0,hi,hz0,hz1,hz2⟩:=info_parts Tx.infoT;refine wpList_append_own w hg s x 24 hop B 9 i0 (.string ⟨#[]⟩) 1 16 Tryz.underlying24 hi hz0 hz1 hz2 rfl (by decide) _ l.length (l.map Value.string) hs hown ⟨b,0,none⟩ 1 1 [.string k] hx rfl (fun j u hj=>?_) (fun u hu=>by simp at hu;subst hu;rfl) (by unfold maxLen;omega) (by omega) hB ?_
 ·match j,hj with
  | 0,hj=>simp at hj;subst hj;simpa [Addr.add] using hc
 intro v' w' hown' hgrow hnil;obtain⟨hl,⟨hv0,_⟩ | ⟨g',cap',cur,hvs,rest'⟩⟩:=id hown'
 ·have:=(hnil.1 hv0).1;simp at this
 ·subst hvs;have e:l.length+1=(l++[k]).length:=by simp
  rw [e] at hown' ⊢;exact hK g' cap' w' (by unfold OwnT;rw [List.map_append];exact hown') hgrow
theorem ownT_keep{B q g c:Nat}{w w':World}{l:List ByteArray}(h:OwnT B w (some ⟨g,0,none⟩) c l)(hg:w.grownBy w' (some q))(hne:g≠q):OwnT B w' (some ⟨g,0,none⟩) c l:=
 World.ownsRow.kept h hg (.inr (fun e=>hne (by simpa [Value.ownBlock] using e)))
theorem ownT_lt{B g c:Nat}{w:World}{l:List ByteArray}(h:OwnT B w (some ⟨g,0,none⟩) c l):B≤g∧g<w.heap.size:=World.ownsRow.lt h g rfl
theorem drawRead(a:Option Addr)(len cap:Nat)(w:World)(hl:len≤4096)(hc:Cur.Code w a len):Calls Tryz.prog 6 #[.slice a len cap] w (DrawnR w):=by
 go_enter Tryz.func6,Tryz.ntmps6
 go_wp2_with fail
 refine(Cur.new a len cap _ hl hc).mono ?_;rintro e w1 ⟨rfl,A1,B1⟩;have hcw:w.heap.size<w1.heap.size:=A1.lt;have HO1:Hid (OwnT w1.heap.size (w1.alloc (.cells #[] 9)) (some ⟨w1.heap.size,0,none⟩) 0 []):=Tx.own_empty w1;have HA1:Hid (At w.heap.size a len cap (w1.alloc (.cells #[] 9))∧Below w.heap.size w (w1.alloc (.cells #[] 9))):=⟨Draw.at_alloc A1 _,B1.alloc B1.size _⟩
 have hcode:len=0∨∃b off,a=some ⟨b,off,none⟩∧b<w1.heap.size:=code_lt A1;clear A1;have hB1s:=B1.size;clear B1;go_upto_region 3 with fail
 generalize w1.alloc (.cells #[] 9)=w2 at HO1 HA1 ⊢;generalize hb1:w1.heap.size=b1 at *;go_wp2_with fail
 refine(Cur.below w.heap.size a len cap 9 _ hl (by omega) HA1.out.1).mono ?_;rintro e w3 ⟨n,rfl,hn0,hn1,A3,g3⟩;have hn2:=hn1 (by omega);have HO3:Hid (OwnT b1 w3 (some ⟨b1,0,none⟩) 0 []):=ownT_keep HO1.out g3 (by omega);have HA3:Hid (At w.heap.size a len cap w3∧Below w.heap.size w w3):=⟨A3,Draw.below_of_grown HA1.out.2 (Nat.le_refl _) g3⟩
 clear HO1 HA1 A3 g3 hn1;go_wp2_with fail
 go_loopw [4,5] (fun sv nv wr=>∃(k g cb:Nat) (S:List ByteArray),nv=.int .i64 (k:Int)∧sv=.slice (some ⟨g,0,none⟩) S.length cb∧S.length+k≤8∧Hid (∀s∈S,s.size≤300)∧Hid (OwnT b1 wr (some ⟨g,0,none⟩) cb S)∧Hid (At w.heap.size a len cap wr∧Below w.heap.size w wr∧b1≤wr.heap.size)) (fun _ nv _=>(intOf nv).toNat)
 case atStart=>exact⟨n.toNat,b1,0,[],by congr 1;omega,rfl,by simp;omega,fun s hs=>by simp at hs,HO3,HA3.out.1,HA3.out.2,by have:=ownT_lt HO3.out;omega⟩
 case round=>
  clear HO3 HA3;obtain⟨k,g,cb,S,rfl,rfl,hk,HB,HO,HA⟩:=hrel;by_cases hp:0<k
  ·have hp':(0:Int)<(k:Int):=by omega
   go_wp2_with fail
   refine(De.l16Draw _ a len cap _ hl HA.out.1).mono ?_;rintro e w4 ⟨kd,key,v,nw,rfl,hks,A4,g4⟩;have HO4:Hid (OwnT b1 w4 (some ⟨g,0,none⟩) cb S):=ownT_keep HO.out g4 (by have:=ownT_lt HO.out;omega);have HA4:Hid (At w.heap.size a len cap w4∧Below w.heap.size w w4∧b1≤w4.heap.size):=⟨A4,Draw.below_of_grown HA.out.2.1 (Nat.le_refl _) g4,Nat.le_trans HA.out.2.2 g4.size⟩
   clear A4 g4 HO HA;go_wp2_with fail
   refine(De.specShowDeed ⟨kd,key,v,nw⟩ _ (by show key.size≤_;omega)).mono ?_;rintro e w5 ⟨rfl,b5⟩;have htl:=De.textD_len ⟨kd,key,v,nw⟩;generalize De.textD ⟨kd,key,v,nw⟩=tx at htl ⊢;have HO5:Hid (OwnT b1 w5 (some ⟨g,0,none⟩) cb S):=Tx.own_below HO4.out b5;have HA5:Hid (At w.heap.size a len cap w5∧Below w.heap.size w w5∧b1≤w5.heap.size):=⟨HA4.out.1.below b5,HA4.out.2.1.trans (b5.mono HA4.out.2.1.size),Nat.le_trans HA4.out.2.2 b5.size⟩
   clear b5 HO4 HA4;go_wp2_with fail
   refine(Cur.once _ a len cap 8 _ hl (by omega) HA5.out.1).mono ?_;rintro e w6 ⟨b,rfl,A6,g6⟩;have HO6:Hid (OwnT b1 w6 (some ⟨g,0,none⟩) cb S):=ownT_keep HO5.out g6 (by have:=ownT_lt HO5.out;omega);have HA6:Hid (At w.heap.size a len cap w6∧Below w.heap.size w w6∧b1≤w6.heap.size):=⟨A6,Draw.below_of_grown HA5.out.2.1 (Nat.le_refl _) g6,Nat.le_trans HA5.out.2.2 g6.size⟩
   clear A6 g6 HO5 HA5;have HSTEP:Hid (∀(x:ByteArray) (g' c':Nat) (V:World),x.size≤300→OwnT b1 V (some ⟨g',0,none⟩) c' (S++[x])→(w6.alloc (.cells #[.string x] 9)).grownBy V (some g)→Hid (∀s∈S++[x],s.size≤300)∧Hid (OwnT b1 V (some ⟨g',0,none⟩) c' (S++[x]))∧Hid (At w.heap.size a len cap V∧Below w.heap.size w V∧b1≤V.heap.size)):=fun x g' c' V hx ho hg=>by
    have hgl:=ownT_lt HO6.out;have hbe:Below b1 (w6.alloc (.cells #[.string x] 9)) V:=(Below.refl _ _).grown hg (by have:=HA6.out.2.2;simp;omega) (fun j hj=>by simp at hj;omega);refine⟨fun s hs=>?_,ho,Bend.At.below' (Draw.at_alloc HA6.out.1 _) hbe (by omega) hcode (Nat.le_refl _),(HA6.out.2.1.alloc HA6.out.2.1.size _).trans (hbe.mono (by omega)),by have:=hg.size;have:=HA6.out.2.2;simp at *;omega⟩;rcases List.mem_append.1 hs with h | h
    ·exact HB.out s h
    ·simp at h;subst h;exact hx
   cases b
   ·go_wp2_with (at_builtin;refine list_T rfl _ _ rfl b1 g cb S tx w6.heap.size (by first | rfl | simp [Act.eval]) (HO6.out.alloc _) (by first | rfl | simp [Act.eval]) (by simp) (by omega) (by have:=HA6.out.2.2;simp;omega) ?_)
    intro g' c' V ho hg;obtain⟨r1,r2,r3⟩:=HSTEP.out tx g' c' V (by omega) ho hg;clear ho hg HO6 HA6 HSTEP HB;go_wp2;go_roundw
    case rel=>exact⟨k-1,g',c',S++[tx],by congr 1;omega,by congr 1;simp;try omega,by simp;omega,r1,r2,r3⟩
    case measure=>simp [intOf];omega
   ·go_wp2_with (at_builtin;refine list_T rfl _ _ rfl b1 g cb S ⟨#[119,104,97,116]⟩ w6.heap.size (by first | rfl | simp [Act.eval]) (HO6.out.alloc _) (by first | rfl | simp [Act.eval]) (by simp) (by omega) (by have:=HA6.out.2.2;simp;omega) ?_)
    intro g' c' V ho hg;obtain⟨r1,r2,r3⟩:=HSTEP.out ⟨#[119,104,97,116]⟩ g' c' V (by decide) ho hg;clear ho hg HO6 HA6 HSTEP HB;go_wp2;go_roundw
    case rel=>exact⟨k-1,g',c',S++[⟨#[119,104,97,116]⟩],by congr 1;omega,by congr 1;simp;try omega,by simp;omega,r1,r2,r3⟩
    case measure=>simp [intOf];omega
  ·obtain rfl:k=0:=by omega
   go_wp2;go_ret;exact⟨g,cb,S,rfl,by omega,HB.out,Go.Joins.ownsRow_le HO.out (by omega),HA.out.2.1⟩
section
variable {c b0 x:Nat} {a:Option Addr} {len cap:Nat} {w wr V:World} {g cb:Nat} {L:List En} {k:Int} {s:ByteArray} {v n:Int}
end
end Bk
end
section
namespace De
end De
namespace Bk
theorem eqEntry(s:ByteArray)(v:Int)(w:World) :
  Calls Tryz.prog 39 #[.agg #[.string s,.int .i64 v],.agg #[.string s,.int .i64 v]] w fun e w'=>e=.returned (.bool true)∧Below w.heap.size w w':=by
 go_enter Tryz.func39,Tryz.ntmps39
 go_wp2;go_ret;exact⟨rfl,((Below.refl _ _).alloc (Nat.le_refl _) _).alloc (by simp) _⟩
theorem eqEntryS(a b:Option Addr)(ca cb:Nat)(L:List En)(w:World)(hl:L.length≤1048600)(ha:RdE w a L)(hb:RdE w b L) :
   Calls Tryz.prog 17 #[.slice a L.length ca,.slice b L.length cb] w fun e w'=>e=.returned (.bool true)∧Below w.heap.size w w':=by
 go_enter Tryz.func17,Tryz.ntmps17
 go_wp2;go_loopw [5] (fun i wr=>∃j:Nat,j≤L.length∧i=.int .i64 j∧Hid (Below w.heap.size w wr)) (fun i _=>L.length-(intOf i).toNat)
 case atStart=>exact⟨0,by omega,rfl,Below.refl _ _⟩
 case round=>
   obtain⟨j,hj,rfl,HB⟩:=hrel;by_cases hlt:j<L.length
   · obtain⟨g,o,rfl,hg,hc⟩:=(ha.below HB.out).at j hlt;obtain⟨g',o',rfl,hg',hc'⟩:=(hb.below HB.out).at j hlt;obtain⟨X,_,F,HF,HG⟩:=Fam.fam wr;have HC:Hid (∀z,CellsE (F z) g (o+j*2) (atE L j)):=fun z=>hc.below (HF.out z) hg
     have HC':Hid (∀z,CellsE (F z) g' (o'+j*2) (atE L j)):=fun z=>hc'.below (HF.out z) hg'
     clear hc hc';generalize atE L j=k at HC HC';have c0:=fun z=>(HC.out z).c0
     have c1:=fun z=>(HC.out z).c1
     have d0:=fun z=>(HC'.out z).c0
     have d1:=fun z=>(HC'.out z).c1
     go_wp2_with fail
     refine Fam.region (F:=F) (by kernel_rfl) (by kernel_rfl) (HG.out _ (Below.refl _ wr).drew) ?_
     repeat (go_big_quiet_step (first
       | (go_at_call 39;exact(eqEntry _ _ _).mono fun _ _ h=>⟨h.1,HG.out _ ((HF.out _).trans (h.2.mono (HF.out _).size))⟩)))
     refine wpQuiet_nil ?_;intro w2 hw2;obtain⟨z,rfl⟩:=hw2;have HB2:Hid (Below w.heap.size w (F z)):=HB.out.trans ((HF.out z).mono HB.out.size);clear c0 c1 d0 d1;go_wp2;go_roundw
     case rel=>exact⟨j+1,by omega,by go_num,HB2⟩
     case measure=>simp [intOf];omega
   · obtain rfl:j=L.length:=by omega
     go_wp2;go_ret;exact⟨rfl,HB.out⟩
theorem likeBook(a b:Option Addr)(ca cb:Nat)(L:List En)(w:World)(hl:L.length≤1048600)(ha:RdE w a L)(hb:RdE w b L) :
  Calls Tryz.prog 9 #[.slice a L.length ca,.slice b L.length cb] w fun e w'=>e=.returned (.bool true)∧Below w.heap.size w w':=by
 go_enter Tryz.func9,Tryz.ntmps9
 go_wp2;go_loopw [5] (fun i wr=>∃j:Nat,j≤L.length∧i=.int .i64 j∧Hid (Below w.heap.size w wr)) (fun i _=>L.length-(intOf i).toNat)
 case atStart=>exact⟨0,by omega,rfl,Below.refl _ _⟩
 case round=>
  obtain⟨j,hj,rfl,HB⟩:=hrel;by_cases hlt:j<L.length
  ·obtain⟨g,o,rfl,hg,hc⟩:=(ha.below HB.out).at j hlt;obtain⟨g',o',rfl,hg',hc'⟩:=(hb.below HB.out).at j hlt;have HBD:Hid (Below w.heap.size w wr.drew):=HB.out.drew;obtain⟨c0,c1⟩:=hc;obtain⟨d0,d1⟩:=hc';generalize atE L j=k at c0 c1 d0 d1;clear HB;go_wp2_with fail
   go_region
   go_wp2;go_roundw
   case rel=>exact⟨j+1,by omega,by go_num,HBD⟩
   case measure=>simp [intOf];omega
  ·obtain rfl:j=L.length:=by omega
   go_wp2;go_ret;exact⟨rfl,HB.out⟩
end Bk
end
section
namespace Lc
end Lc
end
section
namespace Lc
end Lc
end
section
namespace Kn
end Kn
end
section
namespace Lc
end Lc
end
section
namespace Lc
open Kn (dig B B_size B_list B_app conv1)
def mdig:Nat→Nat→List UInt8→List UInt8
 | 0,_,s=>s
 | f+1,m,s=>if m=0 then s else mdig f (m / 10) (dig m :: s)
def markS(k:Nat):ByteArray:=B (109 :: mdig k k [])
theorem mdig_zero(f:Nat)(s:List UInt8):mdig f 0 s=s:=by
 cases f <;> simp [mdig]
theorem markText(k:Nat)(hk:0<k)(hk2:k≤100000000)(w:World):Calls Tryz.prog 40 #[.int .i64 (k:Int)] w fun e w'=>e=.returned (.string (markS k))∧Below w.heap.size w w':=by
 have kc:=conv1;have hk':¬ (k:Int)≤0:=by omega
 go_enter Tryz.func40,Tryz.ntmps40
 go_wp2;go_loopw [0,3] (fun v t wr=>∃(m f:Nat) (s:List UInt8),v=.int .i64 (m:Int)∧t=.string (B s)∧m≤f∧s.length+m≤k∧Hid (mdig k k []=mdig f m s)∧Hid (Below w.heap.size w wr)) (fun v _ _=>(intOf v).toNat)
 case atStart=>exact⟨k,k,[],rfl,rfl,Nat.le_refl _,by simp,rfl,Below.refl _ _⟩
 case round=>
  obtain⟨m,f,s,rfl,rfl,hmf,hsm,HD,HB⟩:=hrel;have hsz:=B_size s;have hsz1:∀x:Nat,(B [dig x]).size=1:=fun x=>B_size _
  by_cases hm:0<m
  ·obtain⟨f',rfl⟩:∃f',f=f'+1:=⟨f-1,by omega⟩
   have HN:Hid (mdig k k []=mdig f' (m / 10) (dig m :: s)):=by
    show _=_;rw [HD.out];show(if m=0 then s else _)=_;rw [if_neg (by omega)]
   have HE:Hid (B [dig m]++B s=B (dig m :: s)):=B_app [dig m] s;have HB1:∀o:Obj,Hid (Below w.heap.size w (wr.alloc o)):=fun o=>HB.out.alloc HB.out.size o
   have hm':(0:Int)<(m:Int):=by omega
   clear HD;go_wp2;go_roundw
   case rel=>exact⟨m / 10,f',dig m :: s,by go_num,by rw [HE.out],by omega,by simp;omega,HN,HB1 _⟩
   case measure=>simp [intOf];omega
  ·obtain rfl:m=0:=by omega
   have HE:Hid (B [109]++B s=markS k):=by
    show _=_;rw [B_app];unfold markS;rw [HD.out,mdig_zero];rfl
   have HE2:Hid ((⟨#[109]⟩:ByteArray)=B [109]):=rfl;go_wp2;go_ret;exact⟨by rw [← HE.out];rfl,HB.out⟩
/-! ### cells, one behind the other -/
end Lc
namespace Bk
open Lc (markS markText)
structure At2(w:World)(b o n:Nat)(f:Nat→Value):Prop where
 lt:b<w.heap.size
 rd:∀i,i<n*2→w.cell? ⟨b,o+i,none⟩=some (f i)
 fr:∀i,i<n*2→w.frozen? ⟨b,o+i,none⟩=false
section
variable {w w':World} {b o n:Nat} {f:Nat→Value}
theorem At2.below(h:At2 w b o n f)(hb:Below w.heap.size w w'):At2 w' b o n f:=
 ⟨Nat.lt_of_lt_of_le h.lt hb.size,fun i hi=>(hb.cell (p:=⟨b,o+i,none⟩) h.lt).trans (h.rd i hi),fun i hi=>(hb.frozen (p:=⟨b,o+i,none⟩) h.lt).trans (h.fr i hi)⟩
theorem At2.keep{r:Option Nat}(h:At2 w b o n f)(hg:w.grownBy w' r)(hne:r≠some b):At2 w' b o n f:=
 ⟨Nat.lt_of_lt_of_le h.lt hg.size,fun i hi=>(hg.cell_far ⟨b,o+i,none⟩ h.lt (fun e=>hne e.symm)).trans (h.rd i hi),fun i hi=>(hg.frozen_far ⟨b,o+i,none⟩ h.lt (fun e=>hne e.symm)).trans (h.fr i hi)⟩
theorem At2.put(h:At2 w b o n f)(m:Nat)(hm:m<n*2)(v:Value):At2 (w.setCell ⟨b,o+m,none⟩ v) b o n (fun i=>if i=m then v else f i):=by
 refine⟨by simpa using h.lt,fun i hi=>?_,fun i hi=>by simpa using h.fr i hi⟩;by_cases e:i=m
 ·subst e;rw [if_pos rfl];exact World.cell?_setCell_same _ _ _ (h.rd i hi)
 ·rw [if_neg e];exact(World.cell?_setCell_other _ _ _ _ (fun q=>e (by have:=congrArg Addr.off q;simp at this;omega))).trans (h.rd i hi)
theorem At2.to{g:Nat→Value}(h:At2 w b o n f)(hg:∀i,i<n*2→f i=g i):At2 w b o n g:=⟨h.lt,fun i hi=>(h.rd i hi).trans (congrArg some (hg i hi)),h.fr⟩
end
def cellM(i:Nat):Value:=if i % 2=0 then .string (markS (1+i)) else .int .i64 ((1+i:Nat):Int)
def mixM(f:Nat→Value)(m i:Nat):Value:=if i<m then cellM i else f i
theorem cellM_s(j:Nat):cellM (j*2)=.string (markS (1+j*2)):=by unfold cellM;rw [if_pos (by omega)]
theorem cellM_i(j:Nat):cellM (j*2+1)=.int .i64 (1+(j:Int)*2+1):=by
 unfold cellM;rw [if_neg (by omega)];congr 1;try omega
theorem mix_put{f:Nat→Value}{m i:Nat}{v:Value}(hv:v=cellM m):(if i=m then v else mixM f m i)=mixM f (m+1) i:=by
 unfold mixM;by_cases e:i=m
 ·subst e;rw [if_pos rfl,if_pos (by omega),hv]
 ·rw [if_neg e];by_cases h:i<m
  ·rw [if_pos h,if_pos (by omega)]
  ·rw [if_neg h,if_neg (by omega)]
def MkE(w:World)(ao:Option Addr)(n:Nat)(f:Nat→Value):Prop:=n=0∨∃b o,ao=some ⟨b,o,none⟩∧At2 w b o n f
theorem MkE.below{w w':World}{ao:Option Addr}{n:Nat}{f:Nat→Value}(h:MkE w ao n f)(hb:Below w.heap.size w w'):MkE w' ao n f:=by
 rcases h with h | ⟨b,o,e,h⟩
 ·exact .inl h
 ·exact .inr ⟨b,o,e,h.below hb⟩
theorem MkE.keep{w w':World}{ao:Option Addr}{n:Nat}{f:Nat→Value}{r:Option Nat}(h:MkE w ao n f)(hg:w.grownBy w' r)(hne:∀b o,ao=some ⟨b,o,none⟩→r≠some b):MkE w' ao n f:=by
 rcases h with h | ⟨b,o,e,h⟩
 ·exact .inl h
 ·exact .inr ⟨b,o,e,h.keep hg (hne b o e)⟩
def MarkPost(ao:Option Addr)(n:Nat)(w:World)(e:Ending)(w':World):Prop:=e=.returned (.int .i64 (1+(n:Int)*2))∧MkE w' ao n cellM∧∃r:Option Nat,(∀b,r=some b→∃o,ao=some ⟨b,o,none⟩)∧w.grownBy w' r
theorem markEntryS(ao:Option Addr)(n cap:Nat)(f:Nat→Value)(w:World)(hn:n≤1048600)(h:MkE w ao n f):Calls Tryz.prog 21 #[.slice ao n cap,.int .i64 1] w (MarkPost ao n w):=by
 rcases h with rfl | ⟨b,o,rfl,h⟩
 · go_enter Tryz.func21,Tryz.ntmps21
   go_wp2;go_loopw [1,5] (fun k i wr=>i=.int .i64 0∧k=.int .i64 1∧wr=w) (fun _ _ _=>0)
   case atStart=>exact⟨rfl,rfl,rfl⟩
   case round=>
     obtain⟨rfl,rfl,rfl⟩:=hrel;go_wp2;go_ret;exact⟨by simp,.inl rfl,none,(fun b e=>by cases e),World.grownBy.refl _ _⟩
 · have HZ:Hid (At2 w b o n (mixM f 0)):=h.to (fun i hi=>by unfold mixM;rw [if_neg (by omega)]);clear h;go_enter Tryz.func21,Tryz.ntmps21
   go_wp2;go_loopw [1,5] (fun k i wr=>∃j:Nat,j≤n∧i=.int .i64 (j:Int)∧k=.int .i64 (1+(j:Int)*2)∧Hid (At2 wr b o n (mixM f (j*2)))∧Hid (w.grownBy wr (some b))) (fun _ i _=>n-(intOf i).toNat)
   case atStart=>exact⟨0,by omega,rfl,rfl,HZ,World.grownBy.refl _ _⟩
   case round=>
     clear HZ;obtain⟨j,hj,rfl,rfl,HF,HG⟩:=hrel;by_cases hlt:j<n
     · have ek:(1+(j:Int)*2)=((1+j*2:Nat):Int):=by omega
       have hmt:Calls Tryz.prog 40 #[.int .i64 (1+(j:Int)*2)] wr fun e w'=>e=.returned (.string (markS (1+j*2)))∧Below wr.heap.size wr w':=by
         rw [ek];exact markText (1+j*2) (by omega) (by omega) wr
       have HMT:Hid (_):=hmt;clear ek hmt;go_wp2_with fail
       refine Calls.mono HMT.out ?_;rintro e w4 ⟨rfl,hb4⟩;have F0:=HF.out.below hb4;have G0:Hid (w.grownBy w4 (some b)):=grown_trans HG.out (grown_of_below hb4 _);have e0:=F0.rd (j*2) (by omega);have f0:=F0.fr (j*2) (by omega);have F1:=F0.put (j*2) (by omega) (.string (markS (1+j*2)));have e1:=F0.rd (j*2+1) (by omega);have f1:=F0.fr (j*2+1) (by omega);rw [← Nat.add_assoc] at e1 f1;have F2:=F1.put (j*2+1) (by omega) (.int .i64 (1+(j:Int)*2+1));have HF2:Hid (At2 ((w4.setCell ⟨b,o+j*2,none⟩ (.string (markS (1+j*2)))).setCell ⟨b,o+j*2+1,none⟩ (.int .i64 (1+(j:Int)*2+1))) b o n (mixM f ((j+1)*2))):=by
         have := F2.to (g := mixM f ((j + 1) * 2)) (fun i hi=>by
           have a:=mix_put (f:=f) (m:=j*2) (i:=i) (v:=.string (markS (1+j*2))) (cellM_s j).symm;have b:=mix_put (f:=f) (m:=j*2+1) (i:=i) (v:=.int .i64 (1+(j:Int)*2+1)) (cellM_i j).symm;have e:(j+1)*2=j*2+1+1:=by omega
           rw [e,← b,← a])
         rwa [← Nat.add_assoc] at this
       have HG2:Hid (w.grownBy ((w4.setCell ⟨b,o+j*2,none⟩ (.string (markS (1+j*2)))).setCell ⟨b,o+j*2+1,none⟩ (.int .i64 (1+(j:Int)*2+1))) (some b)):=grown_set (grown_set G0.out _ _) _ _;clear F0 F1 F2 HF HG hb4 HMT G0;generalize mixM f (j*2)=fm at *;go_wp2;go_roundw
       case rel=>exact⟨j+1,by omega,by go_num,by congr 1;omega,HF2,HG2⟩
       case measure=>simp [intOf];omega
     · obtain rfl:j=n:=by omega
       have HE:Hid (At2 wr b o j cellM):=HF.out.to (fun i hi=>by unfold mixM;rw [if_pos (by omega)]);clear HF;go_wp2;go_ret;exact⟨rfl,.inr ⟨b,o,rfl,HE.out⟩,some b,(fun b' e=>by injection e with e;subst e;exact⟨o,rfl⟩),HG.out⟩
theorem heldEntryS(ao:Option Addr)(n cap:Nat)(w:World)(hn:n≤1048600)(h:MkE w ao n cellM):Calls Tryz.prog 23 #[.slice ao n cap,.int .i64 1] w fun e w'=>e=.returned (.int .i64 (1+(n:Int)*2))∧Below w.heap.size w w':=by
 go_enter Tryz.func23,Tryz.ntmps23
 go_wp2;go_loopw [1,5] (fun k i wr=>∃j:Nat,j≤n∧i=.int .i64 (j:Int)∧k=.int .i64 (1+(j:Int)*2)∧Hid (Below w.heap.size w wr)) (fun _ i _=>n-(intOf i).toNat)
 case atStart=>exact⟨0,by omega,rfl,rfl,Below.refl _ _⟩
 case round=>
   obtain⟨j,hj,rfl,rfl,HB⟩:=hrel;by_cases hlt:j<n
   · obtain ⟨b, o, rfl, h2⟩ := (show ∃b o,ao=some ⟨b,o,none⟩∧At2 w b o n cellM by
       rcases h with h | h
       · omega
       · exact h)
     have F0:=h2.below HB.out;have c0:=(F0.rd (j*2) (by omega)).trans (congrArg some (cellM_s j));have c1:=(F0.rd (j*2+1) (by omega)).trans (congrArg some (cellM_i j));rw [← Nat.add_assoc] at c1;have hbl:=F0.lt;obtain⟨X,_,F,HF,HG⟩:=Fam.fam wr;have d0:∀z,(F z).cell? ⟨b,o+j*2,none⟩=some (.string (markS (1+j*2))):=fun z=>((HF.out z).cell (p:=⟨b,o+j*2,none⟩) hbl).trans c0
     have D1:Hid (∀z,(F z).cell? ⟨b,o+j*2+1,none⟩=some (.int .i64 (1+(j:Int)*2+1))):=fun z=>((HF.out z).cell (p:=⟨b,o+j*2+1,none⟩) hbl).trans c1
     have ek:(1+(j:Int)*2)=((1+j*2:Nat):Int):=by omega
     have HMT:Hid (∀V:World,Calls Tryz.prog 40 #[.int .i64 (1+(j:Int)*2)] V fun e w'=>e=.returned (.string (markS (1+j*2)))∧Below V.heap.size V w'):=by
       intro V;rw [ek];exact markText (1+j*2) (by omega) (by omega) V
     clear ek F0 c0 c1 h h2;generalize markS (1+j*2)=ms at HMT d0;go_wp2_with fail
     refine Fam.region (F:=F) (by kernel_rfl) (by kernel_rfl) (HG.out _ (Below.refl _ wr).drew) ?_
     repeat (go_big_quiet_step (first
       | (go_at_call 40;exact(HMT.out _).mono fun _ _ h=>⟨h.1,HG.out _ ((HF.out _).trans (h.2.mono (HF.out _).size))⟩)))
     refine wpQuiet_nil ?_;intro w2 hw2;obtain⟨z,rfl⟩:=hw2;have HB2:Hid (Below w.heap.size w (F z)):=HB.out.trans ((HF.out z).mono HB.out.size);have d1:=D1.out z;clear d0;go_wp2;go_roundw
     case rel=>exact⟨j+1,by omega,by go_num,by congr 1;omega,HB2⟩
     case measure=>simp [intOf];omega
   · obtain rfl:j=n:=by omega
     go_wp2;go_ret;exact⟨rfl,HB.out⟩
structure CpE(lo hi:Nat)(w:World)(ao:Option Addr)(L:List En):Prop where
 mq:MkE w ao L.length (fun i=>(flatE L).getD i default)
 bl:∀b o,ao=some ⟨b,o,none⟩→lo≤b∧b<hi
 hw:hi≤w.heap.size
theorem CpE.below{lo hi:Nat}{w w':World}{ao:Option Addr}{L:List En}(h:CpE lo hi w ao L)(hb:Below w.heap.size w w'):CpE lo hi w' ao L:=⟨h.mq.below hb,h.bl,Nat.le_trans h.hw hb.size⟩
theorem CpE.keep{lo hi:Nat}{w w':World}{ao:Option Addr}{L:List En}{r:Option Nat}(h:CpE lo hi w ao L)(hg:w.grownBy w' r)(hr:∀b,r=some b→b<lo∨hi≤b):CpE lo hi w' ao L:=
 ⟨h.mq.keep hg (fun b o e q=>by have:=h.bl b o e;have:=hr b q;omega),h.bl,Nat.le_trans h.hw hg.size⟩
theorem CpE.rd{lo hi:Nat}{w:World}{ao:Option Addr}{L:List En}(h:CpE lo hi w ao L):RdE w ao L:=by
 rcases h.mq with e | ⟨b,o,e,a⟩
 ·exact .inl (List.length_eq_zero_iff.1 e)
 ·refine .inr ⟨b,o,e,a.lt,fun i hi=>?_⟩;have g0:=flatE_at L i 0 hi (by omega);have g1:=flatE_at L i 1 hi (by omega);rw [Nat.add_zero] at g0;refine⟨(a.rd (i*2) (by omega)).trans ?_,?_⟩
  ·simp only [List.getD,g0];rfl
  ·have:=a.rd (i*2+1) (by omega);rw [← Nat.add_assoc] at this;refine this.trans ?_;simp only [List.getD,g1];rfl
theorem at_of_rd{w:World}{g o:Nat}{L:List En}(h:RdE w (some ⟨g,o,none⟩) L)(hg:g<w.heap.size)(hf:∀i,i<L.length*2→w.frozen? ⟨g,o+i,none⟩=false):At2 w g o L.length (fun i=>(flatE L).getD i default):=by
 refine⟨hg,fun i hi=>?_,hf⟩;have hl:i<(flatE L).length:=by rw [flatE_len];exact hi
 have:=rdE_news h i (flatE L)[i] (List.getElem?_eq_getElem hl);rw [WideShapes.add_plain] at this;rw [this];simp [List.getD,hl]
theorem cpE_own{B g c:Nat}{w:World}{L:List En}(h:OwE B w g c L):CpE B w.heap.size w (some ⟨g,0,none⟩) L:=
 ⟨.inr ⟨_,0,rfl,at_of_rd h.rd h.shape.2.2.2 (fun i _=>by rw [Nat.zero_add];exact h.frozen i)⟩,fun b o e=>by injection e with e;injection e with e;subst e;exact⟨h.shape.2.2.1,h.shape.2.2.2⟩,Nat.le_refl _⟩
end Bk
end
section
namespace Sg
end Sg
end
section
namespace Kn
end Kn
end
section
namespace Lc
end Lc
end
section
namespace Sg
open Memb (Own)
end Sg
end
section
namespace Sg
end Sg
end
section
namespace Db
structure RowI(w:World)(g n:Nat)(D:Nat→Int):Prop where
 lt:g<w.heap.size
 rd:∀i,i<n→w.cell? ⟨g,i,none⟩=some (.int .i64 (D i))
 fr:∀i,i<n→w.frozen? ⟨g,i,none⟩=false
theorem RowI.put{w:World}{g n:Nat}{D:Nat→Int}(h:RowI w g n D)(m:Nat)(hm:m<n)(x:Int):RowI (w.setCell ⟨g,m,none⟩ (.int .i64 x)) g n (fun i=>if i=m then x else D i) where
 lt:=by simpa using h.lt
 rd:=fun i hi=>by
  by_cases e:i=m
  ·subst e;simpa using World.cell?_setCell_same _ _ _ (h.rd i hi)
  ·rw [if_neg e];exact(World.cell?_setCell_other _ _ _ _ (by intro q;injection q with _ q;exact e q.symm)).trans (h.rd i hi)
 fr:=fun i hi=>by simpa using h.fr i hi
end Db
end
section
namespace Lsx
open Memb (Own)
open Lst (Rd own_block own_rd own_below)
def marks(k:Int)(n:Nat):List Int:=(List.range n).map fun i:Nat=>k+(i:Int)
theorem marks_length(k:Int)(n:Nat):(marks k n).length=n:=by simp [marks]
theorem marks_get(k:Int)(n j:Nat)(h:j<n):(marks k n).getD j 0=k+(j:Int):=by simp [marks,h]
theorem held(k0:Int)(n:Nat)(ao:Option Addr)(cap:Nat)(w:World)(hk:0≤k0)(hk':k0≤1048576)(hn:n≤1048576)(h:Rd w ao (marks k0 n)) :
  Calls Tryz.prog 24 #[.slice ao n cap,.int .i64 k0] w fun e w'=>e=.returned (.int .i64 (k0+(n:Int)))∧w=w':=by
 go_enter Tryz.func24,Tryz.ntmps24
 go_wp2;go_loop [1,5] (fun q i=>∃k:Nat,k≤n∧i=.int .i64 k∧q=.int .i64 (k0+(k:Int))) (fun _ i=>n-(intOf i).toNat)
 case atStart=>exact⟨0,by omega,rfl,by simp⟩
 case round=>
  obtain⟨k,hkn,rfl,rfl⟩:=hrel;by_cases hlt:k<n
  ·rcases h with h | ⟨g,rfl,hc⟩
   ·exfalso;have:=marks_length k0 n;rw [h] at this;simp at this;omega
   ·have hck:=hc k (by rw [marks_length];exact hlt);rw [marks_get k0 n k hlt] at hck;clear hc;go_wp2;go_round
    case rel=>exact⟨k+1,by omega,by go_num,by go_num⟩
    case measure=>simp [intOf];omega
  ·obtain rfl:k=n:=by omega
   go_wp2;go_ret;exact⟨rfl,rfl⟩
theorem alike(l:List Int)(a b:Option Addr)(ca cb:Nat)(w:World)(hn:l.length≤1048576)(ha:Rd w a l)(hb:Rd w b l) :
  Calls Tryz.prog 18 #[.slice a l.length ca,.slice b l.length cb] w fun e w'=>e=.returned (.bool true)∧∃n,w'=w.drewN n:=by
 go_enter Tryz.func18,Tryz.ntmps18
 go_wp2;go_loopw [5] (fun i wr=>∃k n:Nat,k≤l.length∧i=.int .i64 k∧wr=w.drewN n) (fun i _=>l.length-(intOf i).toNat)
 case atStart=>exact⟨0,0,by omega,rfl,rfl⟩
 case round=>
  obtain⟨k,n,hkn,rfl,rfl⟩:=hrel;by_cases hlt:k<l.length
  ·rcases ha with h | ⟨g,rfl,hc⟩
   ·exfalso;rw [h] at hlt;simp at hlt
   ·rcases hb with h | ⟨g',rfl,hc'⟩
    ·exfalso;rw [h] at hlt;simp at hlt
    ·have h1:=hc k hlt;have h2:=hc' k hlt;clear hc hc';generalize l.getD k 0=x at h1 h2;go_wp2_with fail
     go_quiet (fail)
     go_wp2;go_roundw
     case rel=>exact⟨k+1,_,by omega,by go_num,rfl⟩
     case measure=>simp [intOf];omega
  ·go_wp2;go_ret;exact⟨rfl,n,rfl⟩
def part(k0:Int)(l:List Int)(k:Nat):List Int:=marks k0 k++l.drop k
theorem part_zero(k0:Int)(l:List Int):part k0 l 0=l:=by simp [part,marks]
theorem part_all(k0:Int)(l:List Int):part k0 l l.length=marks k0 l.length:=by simp [part]
theorem part_get(k0:Int)(l:List Int)(k:Nat)(h:k<l.length):(part k0 l k)[k]? = some (l.getD k 0):=by
 unfold part;rw [List.getElem?_append_right (by rw [marks_length];omega),marks_length];simp [h]
theorem marks_succ(k0:Int)(k:Nat):marks k0 (k+1)=marks k0 k++[k0+(k:Int)]:=by simp [marks,List.range_succ]
theorem part_set(k0:Int)(l:List Int)(k:Nat)(h:k<l.length):(part k0 l k).set k (k0+(k:Int))=part k0 l (k+1):=by
 unfold part;rw [List.set_append,if_neg (by rw [marks_length];omega),marks_length,Nat.sub_self,List.drop_eq_getElem_cons h,List.set_cons_zero,marks_succ,List.append_assoc];rfl
theorem stored{B g cap n:Nat}{k0:Int}{l:List Int}{k:Nat}{w wr:World}(hk:k<l.length)(hg:B≤g)
  (hown:wr.ownsRow B 2 1 (.slice (some ⟨g,0,none⟩) n cap) n ((part k0 l k).map (Value.int .i64))) (hb:Below B w wr) :
  (wr.setCell ⟨g,k,none⟩ (.int .i64 (k0+(k:Int)))).ownsRow B 2 1 (.slice (some ⟨g,0,none⟩) n cap) n ((part k0 l (k+1)).map (Value.int .i64))∧Below B w (wr.setCell ⟨g,k,none⟩ (.int .i64 (k0+(k:Int)))):=by
 refine⟨?_,hb.setCell hg _⟩;have:=(World.ownsRow.stored hown k (.int .i64 (k0+(k:Int)))).1;rw [← List.map_set,part_set k0 l k hk] at this;exact this
theorem mark(k0:Int)(l:List Int)(ao:Option Addr)(cap B:Nat)(w:World)(hk:0≤k0)(hk':k0≤1048576)(hn:l.length≤1048576)(h:Own B w ao cap l) :
  Calls Tryz.prog 22 #[.slice ao l.length cap,.int .i64 k0] w fun e w'=>e=.returned (.int .i64 (k0+(l.length:Int)))∧Own B w' ao cap (marks k0 l.length)∧Below B w w':=by
 by_cases hl:l=[]
 ·subst hl;go_enter Tryz.func22,Tryz.ntmps22
  go_wp2;refine wp_loop_rounds 1 ?_;rw [rounds_succ];go_wp2;go_ret;exact⟨by simp,h,Below.refl _ _⟩
 ·obtain⟨g,rfl,hg,_⟩:=own_block h hl;obtain⟨n,hnl⟩:∃n,n=l.length:=⟨_,rfl⟩
  have HN:Hid (n=l.length):=hnl;have hn':n≤1048576:=by omega
  rw [← hnl];have h0:w.ownsRow B 2 1 (.slice (some ⟨g,0,none⟩) n cap) n ((part k0 l 0).map (Value.int .i64)):=by
   rw [part_zero,hnl];exact h
  clear hnl h hn;go_enter Tryz.func22,Tryz.ntmps22
  go_wp2;go_loopw [1,5] (fun q i wr=>∃k:Nat,k≤n∧i=.int .i64 k∧q=.int .i64 (k0+(k:Int))∧wr.ownsRow B 2 1 (.slice (some ⟨g,0,none⟩) n cap) n ((part k0 l k).map (Value.int .i64))∧Below B w wr) (fun _ i _=>n-(intOf i).toNat)
  case atStart=>exact⟨0,by omega,rfl,by simp,h0,Below.refl _ _⟩
  case round=>
   obtain⟨k,hkn,rfl,rfl,hown,hb⟩:=hrel;by_cases hlt:k<n
   ·have hkl:k<l.length:=by rw [← HN.out];exact hlt
    have hc:=World.ownsRow.cellAt hown k (by omega);rw [List.getElem?_map,part_get k0 l k hkl] at hc;simp only [Option.map_some] at hc;have hf:=World.ownsRow.frozenAt hown k;have R:=stored hkl hg hown hb;have HR:Hid _:=R;clear R hown;go_wp2;go_roundw
    case rel=>exact⟨k+1,by omega,by go_num,by go_num,HR.out.1,HR.out.2⟩
    case measure=>simp [intOf];omega
   ·obtain rfl:k=n:=by omega
    go_wp2;go_ret;refine⟨rfl,?_,hb⟩;have e:part k0 l k=marks k0 k:=by rw [HN.out];exact part_all k0 l
    rw [e] at hown;unfold Own;rw [marks_length];exact hown
end Lsx
end
section
namespace Nu
open Db (RowI)
theorem row_eq{w:World}{b n:Nat}{D E:Nat→Int}(h:RowI w b n D)(e:∀i,i<n→D i=E i):RowI w b n E:=⟨h.lt,fun i hi=>by rw [← e i hi];exact h.rd i hi,h.fr⟩
theorem below_drewN{b:Nat}{a w:World}(h:Below b a w)(n:Nat):Below b a (w.drewN n):=⟨h.os,h.tape,h.output,h.size,h.block⟩
theorem alikeB(l:List Int)(a b:Option Addr)(ca cb:Nat)(w:World)(hn:l.length≤1048576)(ha:Lst.Rd w a l)(hb:Lst.Rd w b l) :
  Calls Tryz.prog 18 #[.slice a l.length ca,.slice b l.length cb] w fun e w'=>e=.returned (.bool true)∧Below w.heap.size w w':=by
 refine(Lsx.alike l a b ca cb w hn ha hb).mono ?_;rintro e w' ⟨h,n,rfl⟩;exact⟨h,below_drewN (Below.refl _ _) n⟩
theorem own_rd{B:Nat}{w:World}{ao:Option Addr}{cap:Nat}{l:List Int}(h:Memb.Own B w ao cap l):Lst.Rd w ao l:=Lst.own_rd h
theorem own_below{B:Nat}{w w':World}{ao:Option Addr}{cap:Nat}{l:List Int}(h:Memb.Own B w ao cap l)(hb:Below w.heap.size w w'):Memb.Own B w' ao cap l:=Lst.own_below h hb
theorem own_grown{B q:Nat}{w w':World}{ao:Option Addr}{cap:Nat}{l:List Int}(h:Memb.Own B w ao cap l)(hg:w.grownBy w' (some q))(hne:∀g,ao=some ⟨g,0,none⟩→g≠q):Memb.Own B w' ao cap l:=by
 have hlt:=World.ownsRow.lt h;unfold Memb.Own at *;obtain⟨h1,h2⟩:=h;refine⟨h1,?_⟩;rcases h2 with h2 | ⟨g,cap',cur,hv,hB,hc,rest⟩
 ·exact .inl h2
 ·refine .inr ⟨g,cap',cur,hv,hB,?_,rest⟩;simp only [Value.slice.injEq] at hv;obtain⟨rfl,_,_⟩:=hv;rw [hg.block g (hlt g rfl).2 (fun e=>hne g rfl (by cases e;rfl))];exact hc
theorem own_far{B:Nat}{w:World}{ao:Option Addr}{cap:Nat}{l:List Int}(h:Memb.Own B w ao cap l):∀g,ao=some ⟨g,0,none⟩→B≤g∧g<w.heap.size:=fun g e=>by
 subst e;exact World.ownsRow.lt h g rfl
def MarkPost(b n:Nat)(k0:Int)(w:World)(e:Ending)(w':World):Prop:=e=.returned (.int .i64 (k0+(n:Int)))∧RowI w' b n (fun i=>k0+(i:Int))∧w.grownBy w' (some b)
def markD(D:Nat→Int)(k0:Int)(j i:Nat):Int:=if i<j then k0+(i:Int) else D i
theorem markInts(b n cap:Nat)(D:Nat→Int)(k0:Int)(w:World)(hn:n≤1048576)(hk0:0≤k0)(hk1:k0≤1000000000)(hr:RowI w b n D) :
   Calls Tryz.prog 22 #[.slice (some ⟨b,0,none⟩) n cap,.int .i64 k0] w (MarkPost b n k0 w):=by
 have HR0:Hid (RowI w b n D):=hr;clear hr;go_enter Tryz.func22,Tryz.ntmps22
 go_wp2;go_loopw [1,5] (fun q i wr=>∃j:Nat,j≤n∧i=.int .i64 j∧q=.int .i64 (k0+(j:Int))∧Hid (RowI wr b n (markD D k0 j))∧Hid (w.grownBy wr (some b))) (fun _ i _=>n-(intOf i).toNat)
 case atStart=>exact⟨0,by omega,rfl,by simp,row_eq HR0.out (fun i _=>by unfold markD;rw [if_neg (by omega)]),World.grownBy.refl _ _⟩
 case round=>
   obtain⟨j,hj,rfl,rfl,HR,HG⟩:=hrel;by_cases hlt:j<n
   · have dj:=HR.out.rd j hlt;have fj:=HR.out.fr j hlt;have HR1 : Hid (RowI (wr.setCell ⟨b, j, none⟩ (.int .i64 (k0 + (j : Int)))) b n (markD D k0 (j + 1))) := row_eq (HR.out.put j hlt (k0 + (j : Int))) (fun i _=>by
       unfold markD;by_cases e:i=j
       · subst e;rw [if_pos rfl,if_pos (by omega)]
       · rw [if_neg e];by_cases q:i<j
         · rw [if_pos q,if_pos (by omega)]
         · rw [if_neg q,if_neg (by omega)])
     have HG1:Hid (w.grownBy (wr.setCell ⟨b,j,none⟩ (.int .i64 (k0+(j:Int)))) (some b)):=Cur.grownBy_set HG.out _ _;generalize markD D k0 j j=y at dj;clear HR HG;go_wp2;go_roundw
     case rel=>exact⟨j+1,by omega,by go_num,by go_num,HR1,HG1⟩
     case measure=>simp [intOf];omega
   · obtain rfl:j=n:=by omega
     have HR2:Hid (RowI wr b j (fun i=>k0+(i:Int))):=row_eq HR.out (fun i hi=>by unfold markD;rw [if_pos hi]);clear HR;go_wp2;go_ret;exact⟨rfl,HR2.out,HG.out⟩
end Nu
namespace Bk
open Cur (At)
open De (D okD ReadsD)
open Tx (RdT OwnT)
theorem pickN(sd n:Int)(a:Option Addr)(len cap:Nat)(w:World)(hs0:1≤sd)(hs1:sd≤100)(hn0:1≤n)(hn1:n≤1000)(hl:len≤4096)(hc:Cur.Code w a len) :
  Calls Tryz.prog 11 #[.slice a len cap,.int .i64 sd,.int .i64 n] w fun e w'=>∃r:Int,e=.returned (.int .i64 r)∧(0≤r∧r<n)∧∃m,w'=w.drewN m:=by
 have HC:Hid (Cur.Code w a len):=hc;clear hc;go_enter Tryz.func11,Tryz.ntmps11
 go_wp2;go_loopw [7,8] (fun kv iv wr=>∃(i m:Nat) (k:Int),i≤len∧iv=.int .i64 (i:Int)∧kv=.int .i64 k∧0≤k∧k≤1000003∧wr=w.drewN m) (fun _ iv _=>len-(intOf iv).toNat)
 case atStart=>exact⟨0,0,(len:Int)+7919*sd,by omega,rfl,by go_num,by omega,by omega,rfl⟩
 case round=>
  obtain⟨i,m,k,hi,rfl,rfl,k0,k1,rfl⟩:=hrel;by_cases hlt:i<len
  ·have hii:(i:Int)<(len:Int):=by omega
   obtain⟨b,off,rfl,z,cz,z0,z1⟩:∃b off,a=some ⟨b,off,none⟩∧∃z:Int,(w.drewN m).cell? ⟨b,off+i,none⟩=some (.int .u8 z)∧0≤z∧z≤255:=by
    rcases HC.out with h | ⟨b,off,ha,_,h⟩
    ·omega
    ·obtain⟨z,h1,h2,h3⟩:=h i hlt;exact⟨b,off,ha,z,h1,h2,h3⟩
   have m0:=Int.emod_nonneg (k*257+z+sd) (show(1000003:Int)≠0 by omega);have m1:=Int.emod_lt_of_pos (k*257+z+sd) (show(0:Int)<1000003 by omega);go_wp2;go_roundw
   case rel=>exact⟨i+1,_,(k*257+z+sd) % 1000003,by omega,by go_num,by go_num,m0,by omega,rfl⟩
   case measure=>simp [intOf];omega
  ·obtain rfl:i=len:=by omega
   have hnz:¬ n=0:=by omega
   have m0:=Int.emod_nonneg k hnz;have m1:=Int.emod_lt_of_pos k (show 0<n by omega);go_wp2;go_ret;exact⟨k % n,rfl,⟨m0,m1⟩,m,rfl⟩
def ReadsOk(R:List En × List Int)(w:World)(e:Ending)(w':World):Prop:=∃ao ca bo cb,e=.returned (.tuple #[.slice ao R.1.length ca,.slice bo R.2.length cb])∧CpE w.heap.size w'.heap.size w' ao R.1∧(ao=none→ca=0)∧Memb.Own w.heap.size w' bo cb R.2∧(∀g o g',ao=some ⟨g,o,none⟩→bo=some ⟨g',0,none⟩→g≠g')∧Below w.heap.size w w'
def ImplRead(T:World→Prop):Prop:=∀(ao:Option Addr) (cap:Nat) (S:List ByteArray) (W:World),S.length≤1048576→(∀s∈S,s.size≤1073741824)→T W→RdT W ao S→Calls Tryz.prog 7 #[.slice ao S.length cap] W (ReadsOk (readB S) W)
theorem RdE.keep{w w':World}{ao:Option Addr}{L:List En}{r:Option Nat}(h:RdE w ao L)(hg:w.grownBy w' r)(hne:∀g o,ao=some ⟨g,o,none⟩→r≠some g):RdE w' ao L:=by
 rcases h with h | ⟨g,o,e,hl,hc⟩
 ·exact .inl h
 ·refine .inr ⟨g,o,e,Nat.lt_of_lt_of_le hl hg.size,fun i hi=>⟨(hg.cell_far ⟨g,o+i*2,none⟩ hl (fun q=>hne g o e q.symm)).trans (hc i hi).c0,(hg.cell_far ⟨g,o+i*2+1,none⟩ hl (fun q=>hne g o e q.symm)).trans (hc i hi).c1⟩⟩
theorem list_O{ops:Array Oper}{rest:List Oper}{o:Oper}{a:Act}{w:World}{Q:Exit→Act→World→Prop}
  (hg:o.guard=none) (s x:Operand) (hop:o.op=Op.call { callee:=Callee.builtin Builtin.append,args:=#[s,x],argTypes:=#[27,27] })
  (B:Nat) (bo:Option Addr) (c:Nat) (l:List Int) (k:Int) (b:Nat) (hs:a.eval s=.slice bo l.length c) (hown:Memb.Own B w bo c l) (hx:a.eval x=.slice (some ⟨b,0,none⟩) 1 1) (hc:w.cell? ⟨b,0,none⟩=some (.int .i64 k))
  (hsz:l.length≤4000000) (hB:B≤w.heap.size)
  (hK:∀bo' c' w',Memb.Own B w' bo' c' (l++[k])→w.grownBy w' ((Value.slice bo l.length c).ownBlock)→(∀g',bo'=some ⟨g',0,none⟩→bo=some ⟨g',0,none⟩∨g'=w.heap.size)→wpList Tryz.prog ops Q rest (a.put o.dst (.slice bo' (l++[k]).length c')) w') :
  wpList Tryz.prog ops Q (o :: rest) a w:=by
 obtain⟨i0,hi,hz0,hz1,hz2⟩:=info_parts infoN;refine wpList_append_own_at w hg s x 27 hop B 2 i0 (.int .i64 0) 1 8 Tryz.underlying27 hi hz0 hz1 hz2 rfl (by decide) _ l.length (l.map (Value.int .i64)) hs hown ⟨b,0,none⟩ 1 1 [.int .i64 k] hx rfl (fun j u hj=>?_) (fun u hu=>by simp at hu;subst hu;rfl) (by unfold maxLen;omega) (by omega) hB ?_
 ·match j,hj with
  | 0,hj=>simp at hj;subst hj;simpa [Addr.add] using hc
 intro v' w' hown' hgrow hnil hat;have e:l.length+1=(l++[k]).length:=by simp
 have e2:l.map (Value.int .i64)++[.int .i64 k]=(l++[k]).map (Value.int .i64):=by simp
 rw [e,e2] at hown';obtain⟨bo',c',rfl,ho⟩:=Memb.own_shape hown';refine hK bo' c' w' ho hgrow (fun g' h=>?_);subst h;rcases hat with h | h
 ·refine .inl ?_;obtain⟨_,⟨hv,_⟩ | ⟨g1,c1,u1,hv,_⟩⟩:=hown
  ·injection hv with hv _ _;subst hv;simp [Value.ownBlock] at h
  ·injection hv with hv _ _;subst hv;simp [Value.ownBlock] at h;rw [h]
 ·exact .inr (by simpa [Value.ownBlock] using h)
theorem done_do{L:List En}{d:D}(h:okBook L=true)(o:okD d=true):doneB L d=doB L d:=by unfold doneB;rw [h,o];rfl
theorem okBook_keys{L:List En}(h:okBook L=true):∀e∈L,e.key.size≤1099511627776:=by
 intro e he;have:=((okBook_iff L).1 h).2.1 e he;have hk:=this.1;unfold De.keyB at hk;simp at hk;omega
theorem rdI_below{w w':World}{a:Option Addr}{l:List Int}(h:Lst.Rd w a l)(hl:∀c,a=some ⟨c,0,none⟩→c<w.heap.size)(hb:Below w.heap.size w w'):Lst.Rd w' a l:=by
 rcases h with h | ⟨g,e,hc⟩
 ·exact .inl h
 ·exact .inr ⟨g,e,fun j hj=>(hb.cell (p:=⟨g,j,none⟩) (hl g e)).trans (hc j hj)⟩
theorem Kn_drewN{b:Nat}{a w:World}(h:Below b a w)(n:Nat):Below b a (w.drewN n):=⟨h.os,h.tape,h.output,h.size,h.block⟩
theorem okD_key{d:D}(h:okD d=true):d.key.size≤3:=by
 have kb:=((De.okD_iff d).1 h).key;unfold De.keyB at kb;simp at kb;omega
theorem done_code{L:List En}{d:D}:-10≤(doneB L d).2∧(doneB L d).2≤10:=by
 unfold doneB;split
 ·exact code_bd
 ·exact⟨by decide,by decide⟩
theorem step_fact{w6 V:World}{ax bo:Option Addr}{cx cy:Nat}{L:List En}{C:List Int}{k:Int}(hx:RdE V ax L∧(ax=none→cx=0))(hy:Memb.Own w6.heap.size V bo cy C)(hn:L≠[]→∀g o g',ax=some ⟨g,o,none⟩→bo=some ⟨g',0,none⟩→g≠g')(hb:Below w6.heap.size w6 V) :
  ∀(o:Obj) (bo':Option Addr) (c':Nat) (V2:World),Memb.Own w6.heap.size V2 bo' c' (C++[k])→(V.alloc o).grownBy V2 ((Value.slice bo C.length cy).ownBlock)→(∀g',bo'=some ⟨g',0,none⟩→bo=some ⟨g',0,none⟩∨g'=(V.alloc o).heap.size) →
  Hid (RdE V2 ax L∧(ax=none→cx=0))∧Hid (Memb.Own w6.heap.size V2 bo' c' (C++[k]))∧Hid (L≠[]→∀g o g',ax=some ⟨g,o,none⟩→bo'=some ⟨g',0,none⟩→g≠g')∧Hid (Below w6.heap.size w6 V2):=by
 intro o bo' c' V2 ho hg hat;have hx1:=hx.1.below ((Below.refl V.heap.size V).alloc (Nat.le_refl _) o);have hob:∀q,(Value.slice bo C.length cy).ownBlock=some q→bo=some ⟨q,0,none⟩∧w6.heap.size≤q:=fun q e=>by
  have hl:=(World.ownsRow.lt hy q e).1;obtain⟨_,⟨hv,_⟩ | ⟨g1,c1,u1,hv,_⟩⟩:=hy
  ·injection hv with hv _ _;subst hv;simp [Value.ownBlock] at e
  ·injection hv with hv _ _;subst hv;simp [Value.ownBlock] at e;subst e;exact⟨rfl,hl⟩
 refine⟨⟨?_,hx.2⟩,ho,fun hne g o g' e e'=>?_,?_⟩
 ·by_cases hz:L=[]
  ·exact .inl hz
  ·exact RdE.keep hx1 hg (fun g o e q=>hn hz g o g e (hob g q).1 rfl)
 ·rcases hat g' e' with h | h
  ·exact hn hne g o g' e h
  ·rcases hx.1 with h0 | ⟨g1,o1,e1,hl,_⟩
   ·exact absurd h0 hne
   ·rw [e1] at e;injection e with e;injection e with e;simp at h;omega
 ·exact(hb.alloc hb.size o).grown hg (by have:=hb.size;simp;omega) (fun q hq=>(hob q hq).2)
theorem readWalk(T:World→Prop)(hT:∀W V,T W→Below W.heap.size W V→T V)(I:ImplRead T)(a0:Option Addr)(len0 cap0:Nat)(w:World)(hcode:Cur.Code w a0 len0)(t:T w) :
   Calls Tryz.prog 3 #[.slice a0 len0 cap0] w fun e w'=>e=.returned (.bool true)∧Below w.heap.size w w':=by
 by_cases hbig:4096<len0
 · have hb':(4096:Int)<(len0:Int):=by omega
   go_enter Tryz.func3,Tryz.ntmps3
   go_wp2_with (first | (go_at_call 5;go_in) | fail)
   go_ret;exact⟨rfl,Below.refl _ _⟩
 · have hb':¬ (4096:Int)<(len0:Int):=by omega
   have hle0:len0≤4096:=by omega
   clear hbig;have HT:Hid (∀V,Below w.heap.size w V→T V):=fun V hV=>hT w V t hV
   have HC:Hid (Cur.Code w a0 len0):=hcode;have HI:Hid (ImplRead T):=I;clear t hcode hT I;go_enter Tryz.func3,Tryz.ntmps3
   go_wp2_with (first | (go_at_call 5;go_in) | fail)
   refine(drawRead a0 len0 cap0 _ hle0 HC.out).mono ?_;rintro e w1 ⟨g,cb,S,rfl,hS8,hSs,hown,b1⟩;have HSZ:Hid (∀s∈S,s.size≤1073741824):=fun s hs=>by have:=hSs s hs;omega
   have HRT:Hid (RdT w1 (some ⟨g,0,none⟩) S):=Tx.own_rd hown;have hcp:S.length≤cb:=by
     obtain⟨_,⟨h0,_⟩ | ⟨_,_,_,hv,_,_,hm,_⟩⟩:=hown
     · simp at h0
     · injection hv with _ _ hv;subst hv;exact hm
   have HB1:Hid (Below w.heap.size w w1):=b1;obtain⟨hok,hlc⟩:=readB_ok S;have hk8:=((okBook_iff _).1 hok).1;have hlc8:(readB S).2.length≤8:=by omega
   clear hlc;clear hown b1 hSs;go_wp2_with fail
   refine(HI.out (some ⟨g,0,none⟩) cb S w1 (by omega) HSZ.out (HT.out w1 HB1.out) HRT.out).mono ?_;rintro e w2 ⟨ao,ca,bo,cbo,rfl,hcp1,hca,hob,_,b2⟩;have HB2:Hid (Below w.heap.size w w2):=HB1.out.trans (b2.mono HB1.out.size);have HRA:Hid (RdE w2 ao (readB S).1):=hcp1.rd;have HRC:Hid (Lst.Rd w2 bo (readB S).2):=Lst.own_rd hob;have HCL:Hid (∀c,bo=some ⟨c,0,none⟩→c<w2.heap.size):=fun c e=>by
     have:=World.ownsRow.lt hob c (by rw [e];rfl);exact this.2
   have HRT2:Hid (∀V,Below w1.heap.size w1 V→RdT V (some ⟨g,0,none⟩) S):=fun V hV=>by
     rcases HRT.out with h | ⟨g',e,hl,hc⟩
     · exact .inl h
     · exact .inr ⟨g',e,Nat.lt_of_lt_of_le hl hV.size,fun j hj=>(hV.cell (p:=⟨g',j,none⟩) hl).trans (hc j hj)⟩
   have HB12:Hid (Below w1.heap.size w1 w2):=b2;clear hcp1 hob b2 hca;go_wp2_with fail
   refine(specRead (some ⟨g,0,none⟩) cb S w2 (by omega) HSZ.out (HRT2.out w2 HB12.out)).mono ?_;rintro e w3 ⟨g3,c3,g4,c4,rfl,ho3,ho4,b3⟩;have HB3:Hid (Below w.heap.size w w3):=HB2.out.trans (b3.mono HB2.out.size);have HB13:Hid (Below w1.heap.size w1 w3):=HB12.out.trans (b3.mono HB12.out.size);have HRA3:Hid (RdE w3 ao (readB S).1):=HRA.out.below b3;have HRC3:Hid (Lst.Rd w3 bo (readB S).2∧∀c,bo=some ⟨c,0,none⟩→c<w3.heap.size):=⟨rdI_below HRC.out HCL.out b3,fun c e=>Nat.lt_of_lt_of_le (HCL.out c e) b3.size⟩
   have HX3:Hid (RdE w3 (some ⟨g3,0,none⟩) (readB S).1):=ho3.rd;have HY3:Hid (OwI w2.heap.size w3 g4 c4 (readB S).2):=ho4;clear b3 ho3 ho4 HB2 HB12 HRA HRC HCL;go_wp2_with fail
   refine(likeBook ao (some ⟨g3,0,none⟩) ca c3 (readB S).1 w3 (by omega) HRA3.out HX3.out).mono ?_;rintro e w4 ⟨rfl,b4⟩;have hY4:=HY3.out.below b4;have HRC4:Hid (Lst.Rd w4 bo (readB S).2∧∀c,bo=some ⟨c,0,none⟩→c<w4.heap.size):=⟨rdI_below HRC3.out.1 HRC3.out.2 b4,fun c e=>Nat.lt_of_lt_of_le (HRC3.out.2 c e) b4.size⟩
   have HRA4:Hid (RdE w4 ao (readB S).1):=HRA3.out.below b4;have HB4:Hid (Below w.heap.size w w4):=HB3.out.trans (b4.mono HB3.out.size);have HB14:Hid (Below w1.heap.size w1 w4):=HB13.out.trans (b4.mono HB13.out.size);have hal:=Lst.alike (readB S).2 bo (some ⟨g4,0,none⟩) cbo c4 w4 (by omega) HRC4.out.1 (Lst.own_rd hY4);clear b4 hY4 HY3 HRC3 HRA3 HB3 HB13 HX3;go_wp2_with fail
   refine hal.mono ?_;rintro e w5 ⟨rfl,m5,rfl⟩;have b5:=Kn_drewN (Below.refl w4.heap.size w4) m5;have HB5:Hid (Below w.heap.size w (w4.drewN m5)):=HB4.out.trans (b5.mono HB4.out.size);have HB15:Hid (Below w1.heap.size w1 (w4.drewN m5)):=HB14.out.trans (b5.mono HB14.out.size);have HRC5:Hid (Lst.Rd (w4.drewN m5) bo (readB S).2∧∀c,bo=some ⟨c,0,none⟩→c<(w4.drewN m5).heap.size):=HRC4;have HRA5:Hid (RdE (w4.drewN m5) ao (readB S).1):=HRA4.out.below b5;clear hal b5 HB4 HB14 HRC4 HRA4;generalize w4.drewN m5=w5 at *;go_wp2_with fail
   refine(pickN 1 ((S.length:Int)+1) a0 len0 cap0 w5 (by omega) (by omega) (by omega) (by omega) hle0 (De.code_below HC.out HB5.out)).mono ?_;rintro e w6 ⟨r,rfl,⟨r0,r1⟩,m6,rfl⟩;have b6:=Kn_drewN (Below.refl w5.heap.size w5) m6;have HB6:Hid (Below w.heap.size w (w5.drewN m6)):=HB5.out.trans (b6.mono HB5.out.size);have HB16:Hid (Below w1.heap.size w1 (w5.drewN m6)):=HB15.out.trans (b6.mono HB15.out.size);have HRC6:Hid (Lst.Rd (w5.drewN m6) bo (readB S).2∧∀c,bo=some ⟨c,0,none⟩→c<(w5.drewN m6).heap.size):=HRC5;have HRA6:Hid (RdE (w5.drewN m6) ao (readB S).1):=HRA5.out.below b6;clear b6 HB5 HB15 HRC5 HRA5;generalize w5.drewN m6=w6 at *;obtain⟨ct,rfl⟩:=Int.eq_ofNat_of_zero_le r0;have hct:ct≤S.length:=by omega
   have hctc:ct≤cb:=by omega
   have hctI:(ct:Int)≤(S.length:Int):=by omega
   have elt:(S.take ct).length=ct:=by simp;omega
   have hIR:Calls Tryz.prog 7 #[.slice (some ⟨g,0,none⟩) ct cb] w6 (ReadsOk (readB (S.take ct)) w6):=by
     have := HI.out (some ⟨g, 0, none⟩) cb (S.take ct) w6 (by omega) (fun s hs => HSZ.out s (List.mem_of_mem_take hs)) (HT.out w6 HB6.out) (by
       rcases HRT2.out w6 HB16.out with h | ⟨g',e,hl,hc⟩
       · exact .inl (by rw [h];simp)
       · refine .inr ⟨g',e,hl,fun j hj=>?_⟩;have hj':j<ct∧j<S.length:=by rw [elt] at hj;omega
         have:=hc j hj'.2;rw [this];simp [List.getD,hj'.1,hj'.2])
     rwa [elt] at this
   have HIR:Hid (_):=hIR;clear hIR HI;go_wp2_with fail
   refine Calls.mono HIR.out ?_;rintro e w7 ⟨ax,cx,by',cy,rfl,hcx,hcax,hoy,hne,b7⟩;have HX7:Hid (RdE w7 ax (readB (S.take ct)).1∧(ax=none→cx=0)):=⟨hcx.rd,hcax⟩
   have HY7:Hid (Memb.Own w6.heap.size w7 by' cy (readB (S.take ct)).2):=hoy;have HN7:Hid ((readB (S.take ct)).1≠[]→∀g o g',ax=some ⟨g,o,none⟩→by'=some ⟨g',0,none⟩→g≠g'):=fun _=>hne
   have HB67:Hid (Below w6.heap.size w6 w7):=b7;clear hcx hcax hoy hne b7 HIR;go_wp2_with fail
   go_loopw [9, 10, 11] (fun xv yv iv wr=>∃(j:Nat) (ax:Option Addr) (cx:Nat) (by':Option Addr) (cy:Nat),j≤S.length∧iv=.int .i64 (j:Int)∧xv=.slice ax (readB (S.take j)).1.length cx∧yv=.slice by' (readB (S.take j)).2.length cy ∧
     Hid (RdE wr ax (readB (S.take j)).1∧(ax=none→cx=0))∧Hid (Memb.Own w6.heap.size wr by' cy (readB (S.take j)).2)∧Hid ((readB (S.take j)).1≠[]→∀g o g',ax=some ⟨g,o,none⟩→by'=some ⟨g',0,none⟩→g≠g')∧Hid (Below w6.heap.size w6 wr)) (fun _ _ iv _=>S.length-(intOf iv).toNat)
   case atStart=>exact⟨ct,ax,cx,by',cy,hct,rfl,rfl,rfl,HX7,HY7,HN7,HB67⟩
   case round=>
     clear HX7 HY7 HN7 HB67 elt hctc hctI hct;obtain⟨j,ax,cx,by',cy,hj,rfl,rfl,rfl,HX,HY,HN,HB⟩:=hrel;by_cases hlt:j<S.length
     · obtain⟨hokj,hlj⟩:=readB_ok (S.take j);have hlj2:(readB (S.take j)).2.length=j:=by rw [hlj];simp;omega
       have hkj:=((okBook_iff _).1 hokj).1;have HS:Hid (readB (S.take (j+1))=((readStep (readB (S.take j)).1 S[j]).1,(readB (S.take j)).2++[(readStep (readB (S.take j)).1 S[j]).2])):=by
         show _=_;rw [List.take_succ_eq_append_getElem hlt,readB_snoc]
       have hwj:S[j].size≤1073741824:=HSZ.out _ (List.getElem_mem hlt);have c0:wr.cell? ⟨g,j,none⟩=some (.string S[j]):=by
         rcases HRT2.out wr (HB16.out.trans (HB.out.mono HB16.out.size)) with h | ⟨g',e,hl,hc⟩
         · rw [h] at hlt;simp at hlt
         · injection e with e;injection e with e;subst e;have:=hc j hlt;rwa [show S.getD j ⟨#[]⟩=S[j] from by simp [List.getD,hlt]] at this
       clear hlj;generalize S[j]=sj at *;generalize readB (S.take j)=Rj at *;obtain⟨Lj,Cj⟩:=Rj;dsimp only at hokj hlj2 hkj HX HY HS HN ⊢;go_wp2_with fail
       refine(De.specReadDeed sj wr hwj).mono ?_;rintro e V1 ⟨d,is,rfl,hrd,b1⟩;have H1:Hid (d=(readD sj).1):=(reads_is hrd).1;have H2:Hid (is=(readD sj).2):=(reads_is hrd).2;have ba:=b1.alloc b1.size (.cells #[.int .i64 d.kind,.string d.key,.int .i64 d.val,.int .i64 d.new] 34);have HB1':Hid (Below w6.heap.size w6 (V1.alloc (.cells #[.int .i64 d.kind,.string d.key,.int .i64 d.val,.int .i64 d.new] 34))):=HB.out.trans (ba.mono HB.out.size);have HX1:Hid (RdE (V1.alloc (.cells #[.int .i64 d.kind,.string d.key,.int .i64 d.val,.int .i64 d.new] 34)) ax Lj∧(ax=none→cx=0)):=⟨HX.out.1.below ba,HX.out.2⟩
       have HY1:Hid (Memb.Own w6.heap.size (V1.alloc (.cells #[.int .i64 d.kind,.string d.key,.int .i64 d.val,.int .i64 d.new] 34)) by' cy Cj):=Lst.own_below HY.out ba;have k0:(V1.alloc (.cells #[.int .i64 d.kind,.string d.key,.int .i64 d.val,.int .i64 d.new] 34)).cell? ⟨V1.heap.size,0,none⟩=some (.int .i64 d.kind):=by simp
       have k1:(V1.alloc (.cells #[.int .i64 d.kind,.string d.key,.int .i64 d.val,.int .i64 d.new] 34)).cell? ⟨V1.heap.size,1,none⟩=some (.string d.key):=by simp
       have k2:(V1.alloc (.cells #[.int .i64 d.kind,.string d.key,.int .i64 d.val,.int .i64 d.new] 34)).cell? ⟨V1.heap.size,2,none⟩=some (.int .i64 d.val):=by simp
       have k3:(V1.alloc (.cells #[.int .i64 d.kind,.string d.key,.int .i64 d.val,.int .i64 d.new] 34)).cell? ⟨V1.heap.size,3,none⟩=some (.int .i64 d.new):=by simp
       clear b1 ba HX HY HB c0 hrd;dsimp only;go_upto_region 14 with fail
       generalize V1.alloc (.cells #[.int .i64 d.kind,.string d.key,.int .i64 d.val,.int .i64 d.new] 34)=V at HB1' HX1 HY1 k0 k1 k2 k3 ⊢;generalize V1.heap.size=x at k0 k1 k2 k3 ⊢
       cases his:is
       · have HST:Hid (readB (S.take (j+1))=(Lj,Cj++[4])):=by
           show _=_;rw [HS.out];unfold readStep;rw [← H2.out,his];rfl
         clear HS H1 H2 his;have HSTP:Hid (_):=step_fact HX1.out HY1.out HN.out HB1'.out (k:=4);go_wp2_with (at_builtin;refine list_O rfl _ _ rfl w6.heap.size by' cy Cj 4 V.heap.size (by first | rfl | simp [Act.eval,hlj2]) (HY1.out.alloc _) (by first | rfl | simp [Act.eval]) (by simp) (by omega) (by have:=HB1'.out.size;simp;omega) ?_)
         intro bo' c' V2 ho2 hg2 hat;obtain⟨r1,r2,r3,r4⟩:=HSTP.out (.cells #[.int .i64 4] 2) bo' c' V2 ho2 (by rw [hlj2];exact hg2) (fun g' h=>by simpa using hat g' h);clear ho2 hg2 hat HSTP HX1 HY1 HB1' k0 k1 k2 k3 HN;go_wp2;go_roundw
         case rel=>exact⟨j+1,ax,cx,bo',c',by omega,by go_num,by rw [HST.out],by rw [HST.out];simp [hlj2];try omega,by rw [HST.out];exact r1,by rw [HST.out];exact r2,by rw [HST.out];exact r3,r4⟩
         case measure=>simp [intOf];omega
       · have hdo:okD d=true:=by rw [H1.out];exact readD_ok (by rw [← H2.out,his])
         have HST:Hid (readB (S.take (j+1))=((doneB Lj d).1,Cj++[(doneB Lj d).2])):=by
           show _=_;rw [HS.out,done_do hokj hdo];unfold readStep;rw [← H2.out,his,← H1.out];rfl
         have hds:=okD_key hdo;have hcd:=done_code (L:=Lj) (d:=d);clear HS H1 H2;go_wp2_with fail
         refine(specDone ax cx Lj d V (by omega) (okBook_keys hokj) HX1.out.1 HX1.out.2 (by omega)).mono ?_;rintro e V3 ⟨g6,c6,rfl,ho6,b6⟩;have HX3:Hid (RdE V3 (some ⟨g6,0,none⟩) (doneB Lj d).1∧((some ⟨g6,0,none⟩:Option Addr)=none→c6=0)):=⟨ho6.rd,fun e=>by cases e⟩
         have HY3:Hid (Memb.Own w6.heap.size V3 by' cy Cj):=Lst.own_below HY1.out b6;have HN3:Hid ((doneB Lj d).1≠[]→∀g o g',(some ⟨g6,0,none⟩:Option Addr)=some ⟨g,o,none⟩→by'=some ⟨g',0,none⟩→g≠g'):=fun _ g o g' e e'=>by
           injection e with e;injection e with e;have h1:=ho6.shape.2.2.1;have h2:=(World.ownsRow.lt HY1.out g' (by rw [e'];rfl)).2;omega
         have HB3:Hid (Below w6.heap.size w6 V3):=HB1'.out.trans (b6.mono HB1'.out.size);clear ho6 b6 HX1 HY1 HB1' k0 k1 k2 k3 HN hdo his hokj hds;have HSTP:Hid (_):=step_fact HX3.out HY3.out HN3.out HB3.out (k:=(doneB Lj d).2);generalize doneB Lj d=M at *;obtain⟨M1,k⟩:=M;dsimp only at hcd HSTP HST ⊢;go_wp2_with (at_builtin;refine list_O rfl _ _ rfl w6.heap.size by' cy Cj k V3.heap.size (by first | rfl | simp [Act.eval,hlj2]) (HY3.out.alloc _) (by first | rfl | simp [Act.eval]) (by simp) (by omega) (by have:=HB3.out.size;simp;omega) ?_)
         intro bo' c' V4 ho4 hg4 hat;obtain⟨r1,r2,r3,r4⟩:=HSTP.out (.cells #[.int .i64 k] 2) bo' c' V4 ho4 (by rw [hlj2];exact hg4) (fun g' h=>by simpa using hat g' h);clear ho4 hg4 hat HSTP HX3 HY3 HB3 HN3;go_wp2;go_roundw
         case rel=>exact⟨j+1,some ⟨g6,0,none⟩,c6,bo',c',by omega,by go_num,by rw [HST.out],by rw [HST.out];simp [hlj2];try omega,by rw [HST.out];exact r1,by rw [HST.out];exact r2,by rw [HST.out];exact r3,r4⟩
         case measure=>simp [intOf];omega
     · obtain rfl:j=S.length:=by omega
       have HSE:Hid (readB (S.take S.length)=readB S):=by show _=_;rw [List.take_length]
       rw [HSE.out] at HX HY ⊢;clear HSE;have HRA8:Hid (RdE wr ao (readB S).1):=HRA6.out.below HB.out;have HRC8:Hid (Lst.Rd wr bo (readB S).2∧∀c,bo=some ⟨c,0,none⟩→c<wr.heap.size):=⟨rdI_below HRC6.out.1 HRC6.out.2 HB.out,fun c e=>Nat.lt_of_lt_of_le (HRC6.out.2 c e) HB.out.size⟩
       have HB8:Hid (Below w.heap.size w wr):=HB6.out.trans (HB.out.mono HB6.out.size);have hkk:=okBook_keys hok;clear HRA6 HRC6 HB6 HB16 HN;go_wp2_with fail
       refine(likeBook ao ax ca cx (readB S).1 wr (by omega) HRA8.out HX.out.1).mono ?_;rintro e V1 ⟨rfl,b1⟩;have HRA9:Hid (RdE V1 ao (readB S).1):=HRA8.out.below b1;have HB9:Hid (Below w.heap.size w V1):=HB8.out.trans (b1.mono HB8.out.size);have hal:=Lst.alike (readB S).2 bo by' cbo cy V1 (by omega) (rdI_below HRC8.out.1 HRC8.out.2 b1) (Lst.own_rd (Lst.own_below HY.out b1))
       clear b1 HX HY HRA8 HRC8 HB8 HB;go_wp2_with fail
       refine hal.mono ?_;rintro e V2 ⟨rfl,m5,rfl⟩;have b5:=Kn_drewN (Below.refl V1.heap.size V1) m5;have HRA10:Hid (RdE (V1.drewN m5) ao (readB S).1):=HRA9.out.below b5;have HB10:Hid (Below w.heap.size w (V1.drewN m5)):=HB9.out.trans (b5.mono HB9.out.size);clear hal b5 HRA9 HB9;generalize V1.drewN m5=V2 at *;go_wp2_with fail
       refine(specBookOk ao ca (readB S).1 V2 (by omega) hkk HRA10.out).mono ?_;rintro e V3 ⟨rfl,b3⟩;have HB11:Hid (Below w.heap.size w V3):=HB10.out.trans (b3.mono HB10.out.size);rw [hok];clear b3;go_wp2;go_ret;exact⟨rfl,HB11.out⟩
end Bk
end
end Go.Proofs.YtadbafppodhfpaaGreatDoor
