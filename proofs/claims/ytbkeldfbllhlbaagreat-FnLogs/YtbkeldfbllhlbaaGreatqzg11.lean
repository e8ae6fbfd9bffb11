/-
 What the model's tying of a hand's knot answers: the lace with the drafted knot behind it and the hand then, or both as they were; for laces, nil or not.
-/
import Derived.Test.YtbkeldfbllhlbaaGreatqzg10
set_option linter.unusedVariables false
set_option maxRecDepth 100000
set_option maxHeartbeats 25600000
namespace Go.Proofs.YtbkeldfbllhlbaaGreat
open Go.RowKit
namespace Rm
open Kn (K okK Zero)
open Bit (bit withB)
open Lc (at' RdK HandsOk amongI)
def draftS(L:List K)(has r:Int):Int:=amongI (fun y=>decide (y.round<r)) L has L.length
def draftK(L:List K)(l:List Int)(who has last:Int)(word:ByteArray):K:=⟨who,nextI L has last,Sg.tipsTo l (draftS L has (nextI L has last)) l.length,word⟩
def draftB(L:List K)(l:List Int)(who has last:Int)(word:ByteArray):Bool:=decide (0≤nextI L has last)&&okK (draftK L l who has last word)
def DraftPost(L:List K)(l:List Int)(who has last:Int)(word:ByteArray)(w:World)(e:Ending)(w':World):Prop:=
 ((draftB L l who has last word=true∧e=.returned (.tuple #[.agg #[.int .i64 (draftK L l who has last word).hand,.int .i64 (draftK L l who has last word).round,.int .i64 (draftK L l who has last word).frm,.string (draftK L l who has last word).word],.bool true])) ∨
  (draftB L l who has last word=false∧e=.returned (.tuple #[.agg #[.int .i64 0,.int .i64 0,.int .i64 0,.string ⟨#[]⟩],.bool false])))∧Below w.heap.size w w'
structure DrSt(w V:World)(kb:Nat)(who has r f:Int)(word:ByteArray):Prop where
 bel:Below w.heap.size w V
 z:Zero (w.heap.size+1) V
 h1:V.cell? ⟨w.heap.size,1,none⟩=some (.int .i64 has)
 k0:V.cell? ⟨kb,0,none⟩=some (.int .i64 who)
 k1:V.cell? ⟨kb,1,none⟩=some (.int .i64 r)
 k2:V.cell? ⟨kb,2,none⟩=some (.int .i64 f)
 k3:V.cell? ⟨kb,3,none⟩=some (.string word)
 f2:V.frozen? ⟨kb,2,none⟩=false
 lt:kb<V.heap.size
 gt:w.heap.size+1<kb
theorem zero_put'{b kb:Nat}{w:World}(z:Zero b w)(hn:kb≠b)(j:Nat)(v:Value):Zero b (w.setCell ⟨kb,j,none⟩ v) where
 lt:=by simpa using z.lt
 r0:=(World.cell?_setCell_other _ _ _ _ (by intro e;injection e with e _;exact hn e)).trans z.r0
 r1:=(World.cell?_setCell_other _ _ _ _ (by intro e;injection e with e _;exact hn e)).trans z.r1
 r2:=(World.cell?_setCell_other _ _ _ _ (by intro e;injection e with e _;exact hn e)).trans z.r2
 r3:=(World.cell?_setCell_other _ _ _ _ (by intro e;injection e with e _;exact hn e)).trans z.r3
 f0:=by simpa using z.f0
 f1:=by simpa using z.f1
 f2:=by simpa using z.f2
 f3:=by simpa using z.f3
theorem drA{w w0 wN:World}(HB:Below w.heap.size w w0)(HZ:Zero (w.heap.size+1) w0)(BN:Below w0.heap.size w0 wN){has:Int}(d1:w0.cell? ⟨w.heap.size,1,none⟩=some (.int .i64 has))(who r:Int)(word:ByteArray)(t:TypeId) :
  DrSt w (wN.alloc (.cells #[.int .i64 who,.int .i64 r,.int .i64 0,.string word] t)) wN.heap.size who has r 0 word where
 bel:=(HB.trans (BN.mono HB.size)).alloc (Nat.le_trans HB.size BN.size) _
 z:=(HZ.below BN).below ((Below.refl _ _).alloc (Nat.le_refl _) _)
 h1:=by
  have hlt:w.heap.size<wN.heap.size:=Nat.lt_of_lt_of_le (Nat.lt_trans (Nat.lt_succ_self _) HZ.lt) BN.size;exact(World.cell?_alloc_lt wN _ ⟨w.heap.size,1,none⟩ hlt).trans ((BN.cell (p:=⟨w.heap.size,1,none⟩) (Nat.lt_trans (Nat.lt_succ_self _) HZ.lt)).trans d1)
 k0:=by simp
 k1:=by simp
 k2:=by simp
 k3:=by simp
 f2:=by simp
 lt:=by simp
 gt:=Nat.lt_of_lt_of_le HZ.lt BN.size
theorem drB{w w0 wN:World}(HB:Below w.heap.size w w0)(HZ:Zero (w.heap.size+1) w0)(BN:Below w0.heap.size w0 wN){has:Int}(d1:w0.cell? ⟨w.heap.size,1,none⟩=some (.int .i64 has))(ZN:Zero w0.heap.size wN)(who r:Int)(word:ByteArray) :
  DrSt w ((((wN.setCell ⟨w0.heap.size,0,none⟩ (.int .i64 who)).setCell ⟨w0.heap.size,1,none⟩ (.int .i64 r)).setCell ⟨w0.heap.size,2,none⟩ (.int .i64 0)).setCell ⟨w0.heap.size,3,none⟩ (.string word)) w0.heap.size who has r 0 word where
 bel:=((((HB.trans (BN.mono HB.size)).setCell (p:=⟨w0.heap.size,0,none⟩) HB.size _).setCell (p:=⟨w0.heap.size,1,none⟩) HB.size _).setCell (p:=⟨w0.heap.size,2,none⟩) HB.size _).setCell (p:=⟨w0.heap.size,3,none⟩) HB.size _
 z:=by
  have hn:w0.heap.size≠w.heap.size+1:=by have:=HZ.lt;omega
  exact zero_put' (zero_put' (zero_put' (zero_put' (HZ.below BN) hn _ _) hn _ _) hn _ _) hn _ _
 h1:=by
  have hlt:w.heap.size<w0.heap.size:=Nat.lt_trans (Nat.lt_succ_self _) HZ.lt;have hn:∀j,(⟨w0.heap.size,j,none⟩:Addr)≠⟨w.heap.size,1,none⟩:=fun j e=>by injection e with e _;omega
  rw [World.cell?_setCell_other _ _ _ _ (hn 3),World.cell?_setCell_other _ _ _ _ (hn 2),World.cell?_setCell_other _ _ _ _ (hn 1),World.cell?_setCell_other _ _ _ _ (hn 0)];exact(BN.cell (p:=⟨w.heap.size,1,none⟩) hlt).trans d1
 k0:=(ZN.put _ _ _ _).1
 k1:=(ZN.put _ _ _ _).2.1
 k2:=(ZN.put _ _ _ _).2.2.1
 k3:=(ZN.put _ _ _ _).2.2.2
 f2:=by simpa using ZN.f2
 lt:=by simpa using ZN.lt
 gt:=HZ.lt
theorem below_rb{w V:World}(h:Below w.heap.size w V)(v0 v1 v2 v3:Value):Below w.heap.size w ((((V.setCell ⟨w.heap.size+1,0,none⟩ v0).setCell ⟨w.heap.size+1,1,none⟩ v1).setCell ⟨w.heap.size+1,2,none⟩ v2).setCell ⟨w.heap.size+1,3,none⟩ v3):=
 (((h.setCell (p:=⟨w.heap.size+1,0,none⟩) (Nat.le_succ _) v0).setCell (p:=⟨w.heap.size+1,1,none⟩) (Nat.le_succ _) v1).setCell (p:=⟨w.heap.size+1,2,none⟩) (Nat.le_succ _) v2).setCell (p:=⟨w.heap.size+1,3,none⟩) (Nat.le_succ _) v3
theorem Lst_drewN{w:World}{bo:Option Addr}{l:List Int}(h:Lst.Rd w bo l)(n:Nat):Lst.Rd (w.drewN n) bo l:=h
theorem keepA{W V:World}(h:Below W.drew.heap.size W.drew V):Below W.heap.size W V:=⟨h.os,h.tape,h.output,h.size,h.block⟩
theorem keepB{W V:World}{o:Obj}(h:Below (W.drew.alloc o).heap.size (W.drew.alloc o) V):Below W.heap.size W V:=
 keepA (((Below.refl _ W.drew).alloc (Nat.le_refl _) o).trans (h.mono (by simp)))
theorem keepC{W V:World}{o:Obj}(h:Below (W.alloc o).drew.heap.size (W.alloc o).drew V):Below W.heap.size W V:=
 ((Below.refl _ W).alloc (Nat.le_refl _) o).trans ((keepA h).mono (by simp))
theorem keepZ{W V:World}{t:TypeId}(h:Below (W.drew.alloc (.cells #[.int .i64 0,.int .i64 0,.int .i64 0,.string ⟨#[]⟩] t)).heap.size (W.drew.alloc (.cells #[.int .i64 0,.int .i64 0,.int .i64 0,.string ⟨#[]⟩] t)) V):Zero W.heap.size V:=(Kn.zero_new W.drew t).below h
theorem keepZ'{W V:World}{t:TypeId}(h:Below (W.alloc (.cells #[.int .i64 0,.int .i64 0,.int .i64 0,.string ⟨#[]⟩] t)).drew.heap.size (W.alloc (.cells #[.int .i64 0,.int .i64 0,.int .i64 0,.string ⟨#[]⟩] t)).drew V):Zero W.heap.size V:=(Kn.zero_new W t).below (keepA h)
end Rm
namespace Rm
open Kn (K okK Zero)
open Bit (bit withB)
open Lc (at' RdK HandsOk amongI)
theorem draft_no{L:List K}{l:List Int}{who has last:Int}{word:ByteArray}{w w':World}(h:draftB L l who has last word=false)(hb:Below w.heap.size w w'):DraftPost L l who has last word w (.returned (.tuple #[.agg #[.int .i64 0,.int .i64 0,.int .i64 0,.string ⟨#[]⟩],.bool false])) w':=⟨.inr ⟨h,rfl⟩,hb⟩
theorem draft_yes{L:List K}{l:List Int}{who has last:Int}{word:ByteArray}{w w':World}{k:K}(h:draftB L l who has last word=true)(hk:draftK L l who has last word=k)(hb:Below w.heap.size w w'):DraftPost L l who has last word w (.returned (.tuple #[.agg #[.int .i64 k.hand,.int .i64 k.round,.int .i64 k.frm,.string k.word],.bool true])) w':=by
 subst hk;exact⟨.inl ⟨h,rfl⟩,hb⟩
theorem dr_put{w V:World}{kb:Nat}{who has r f:Int}{word:ByteArray}(h:DrSt w V kb who has r f word)(n:Nat)(x:Int):DrSt w ((V.drewN n).setCell ⟨kb,2,none⟩ (.int .i64 x)) kb who has r x word where
 bel:=⟨h.bel.os,h.bel.tape,h.bel.output,by have:=h.bel.size;simpa using this,fun k hk=>(Below.heap_setCell (V.drewN n) ⟨kb,2,none⟩ (.int .i64 x) k (by have:=h.gt;show k≠kb;omega)).trans (h.bel.block k hk)⟩
 z:=by
  have hz:Zero (w.heap.size+1) (V.drewN n):=⟨h.z.lt,h.z.r0,h.z.r1,h.z.r2,h.z.r3,h.z.f0,h.z.f1,h.z.f2,h.z.f3⟩
  exact zero_put' hz (by have:=h.gt;omega) _ _
 h1:=(World.cell?_setCell_other _ _ _ _ (by intro e;injection e with e _;have:=h.gt;omega)).trans h.h1
 k0:=(World.cell?_setCell_other _ _ _ _ (by simp)).trans h.k0
 k1:=(World.cell?_setCell_other _ _ _ _ (by simp)).trans h.k1
 k2:=World.cell?_setCell_same _ _ _ (show(V.drewN n).cell? ⟨kb,2,none⟩=_ from h.k2)
 k3:=(World.cell?_setCell_other _ _ _ _ (by simp)).trans h.k3
 f2:=by simpa using h.f2
 lt:=by simpa using h.lt
 gt:=h.gt
theorem has_call'(f:Int)(i:Nat)(b:Bool)(h0:0≤f)(h1:f<1152921504606846976)(hi:i≤60)(hb:bit f i=b)(W:World):Calls Tryz.prog 45 #[.int .i64 f,.int .i64 (i:Int)] W fun e w'=>e=.returned (.bool b)∧w'=W:=has_call f i b h0 h1 hi hb W
theorem l14Draft(ao:Option Addr)(cap:Nat)(L:List K)(bo:Option Addr)(bc:Nat)(l:List Int)(who has kept last:Int)(word:ByteArray)(w:World)(hL:L.length≤60)(hll:l.length=L.length)(hh:HandsOk L)(hr:RdK w ao L)(hrd:Lst.Rd w bo l)(hbo:∀g,bo=some ⟨g,0,none⟩→g<w.heap.size)(h0:0≤has)(h1:has<1152921504606846976)(hl:last<(L.length:Int))(hwd:word.size≤1099511627776) :
   Calls Tryz.prog 178 #[.slice ao L.length cap,.slice bo l.length bc,.agg #[.int .i64 who,.int .i64 has,.int .i64 kept,.int .i64 last],.string word] w (DraftPost L l who has last word w):=by
 have P0 : Hid (Below w.heap.size w ((w.alloc (.cells #[.int .i64 who,.int .i64 has,.int .i64 kept,.int .i64 last] 186)).alloc (.cells #[.int .i64 0,.int .i64 0,.int .i64 0,.string ⟨#[]⟩] 38)) ∧
     Zero (w.heap.size+1) ((w.alloc (.cells #[.int .i64 who,.int .i64 has,.int .i64 kept,.int .i64 last] 186)).alloc (.cells #[.int .i64 0,.int .i64 0,.int .i64 0,.string ⟨#[]⟩] 38)) ∧
     (∀j v,(#[Value.int .i64 who,.int .i64 has,.int .i64 kept,.int .i64 last])[j]? = some v→((w.alloc (.cells #[.int .i64 who,.int .i64 has,.int .i64 kept,.int .i64 last] 186)).alloc (.cells #[.int .i64 0,.int .i64 0,.int .i64 0,.string ⟨#[]⟩] 38)).cell? ⟨w.heap.size,j,none⟩=some v)):=by
   refine⟨((Below.refl _ w).alloc (Nat.le_refl _) _).alloc (by simp) _,?_,?_⟩
   · have:=Kn.zero_new (w.alloc (.cells #[.int .i64 who,.int .i64 has,.int .i64 kept,.int .i64 last] 186)) 38;simpa using this
   · intro j v hj;rw [World.cell?_alloc_lt _ _ ⟨w.heap.size,j,none⟩ (by simp),World.cell?_alloc_new];exact hj
 have HLL:Hid (l.length=L.length):=hll;have hl60:l.length≤60:=by omega
 clear hll;go_enter Tryz.func178,Tryz.ntmps178
 go_wp2_with fail
 generalize (w.alloc (.cells #[.int .i64 who,.int .i64 has,.int .i64 kept,.int .i64 last] 186)).alloc (.cells #[.int .i64 0,.int .i64 0,.int .i64 0,.string ⟨#[]⟩] 38)=w0 at P0 ⊢;obtain⟨B0,Z0,C0⟩:=P0;have d0:=C0 0 _ rfl;have d1:=C0 1 _ rfl;have d2:=C0 2 _ rfl;have d3:=C0 3 _ rfl;have HR0:Hid (RdK w0 ao L):=hr.below B0;have HB0:Hid (Below w.heap.size w w0):=B0;have HZ0:Hid (Zero (w.heap.size+1) w0):=Z0;have hlt0:w.heap.size<w0.heap.size:=Nat.lt_trans (Nat.lt_succ_self _) Z0.lt;clear C0 B0 Z0;have hlt1:w.heap.size<w0.drew.heap.size:=hlt0;go_cut [10] (fun kp wx=>∃kb:Nat,kp=.pointer (some ⟨kb,0,none⟩)∧Hid (DrSt w wx kb who has (nextI L has last) 0 word))
 case first=>
   go_region_with (go_at_call 188;refine(l14Next ao cap L who has kept last _ hL hh (by first | exact HR0.out.drew | exact(HR0.out.below ((Below.refl _ _).alloc (Nat.le_refl _) _)).drew | exact HR0.out.drew.below ((Below.refl _ _).alloc (Nat.le_refl _) _)) h0 h1 hl).mono ?_;rintro e wN ⟨rfl,bN⟩;(first | have BN:=keepC bN | have BN:=keepB bN | have BN:=keepA bN);(first | have ZN:=keepZ bN | have ZN:=keepZ' bN | skip);have hltN:=Nat.lt_of_lt_of_le hlt0 BN.size;have dN0:=(BN.cell (p:=⟨w.heap.size,0,none⟩) hlt0).trans d0;(first | (have zr0:=ZN.r0;have zr1:=ZN.r1;have zr2:=ZN.r2;have zr3:=ZN.r3;have zf0:=ZN.f0;have zf1:=ZN.f1;have zf2:=ZN.f2;have zf3:=ZN.f3) | skip))
   all_goals (go_wp2_with fail)
   all_goals
     first
       | (have S:DrSt w (wN.alloc (.cells #[.int .i64 who,.int .i64 (nextI L has last),.int .i64 0,.string word] 38)) wN.heap.size who has (nextI L has last) 0 word:=drA HB0.out HZ0.out BN d1 _ _ _ _
          go_meet;exact⟨_,rfl,S⟩)
       | (have S:DrSt w ((((wN.setCell ⟨w0.heap.size,0,none⟩ (.int .i64 who)).setCell ⟨w0.heap.size,1,none⟩ (.int .i64 (nextI L has last))).setCell ⟨w0.heap.size,2,none⟩ (.int .i64 0)).setCell ⟨w0.heap.size,3,none⟩ (.string word)) w0.heap.size who has (nextI L has last) 0 word:=drB HB0.out HZ0.out BN d1 ZN _ _ _
          go_meet;exact⟨_,rfl,S⟩)
 case rest=>
   obtain⟨kb,rfl,HS⟩:=hcut;have k1:=HS.out.k1;clear d0 d1 d2 d3 HR0 HB0 HZ0 hlt0 hlt1;by_cases hneg:nextI L has last<0
   · have HT:Hid (draftB L l who has last word=false):=by show _=_;unfold draftB;rw [decide_eq_false (by omega)];rfl
     have Z:=HS.out.z;have zf0:=Z.f0;have zf1:=Z.f1;have zf2:=Z.f2;have zf3:=Z.f3;have zr0:=Z.r0;have zr1:=Z.r1;have zr2:=Z.r2;have zr3:=Z.r3;have HQ:Hid _:=Z.put (.int .i64 0) (.int .i64 0) (.int .i64 0) (.string ⟨#[]⟩);have HBE:Hid _:=below_rb HS.out.bel (.int .i64 0) (.int .i64 0) (.int .i64 0) (.string ⟨#[]⟩);clear Z;go_wp2;obtain⟨q0,q1,q2,q3⟩:=HQ.out;exact bodyPost_ret (v:=.tuple #[.agg #[.int .i64 0,.int .i64 0,.int .i64 0,.string ⟨#[]⟩],.bool false]) (by simp [results,Tryz.results178,go_sem,q0,q1,q2,q3]) rfl (draft_no HT.out HBE.out)
   · have HK:Hid (draftB L l who has last word=okK ⟨who,nextI L has last,Sg.tipsTo l (draftS L has (nextI L has last)) l.length,word⟩):=by show _=_;unfold draftB;rw [decide_eq_true (show 0≤nextI L has last by omega)];rfl
     have HKK:Hid (draftK L l who has last word=⟨who,nextI L has last,Sg.tipsTo l (draftS L has (nextI L has last)) l.length,word⟩):=rfl;have HRV:Hid (RdK wc ao L):=hr.below HS.out.bel;have HLV:Hid (Lst.Rd wc bo l):=by
       rcases hrd with h | ⟨g,hg,hc⟩
       · exact .inl h
       · exact .inr ⟨g,hg,fun j hj=>(HS.out.bel.cell (p:=⟨g,j,none⟩) (hbo g hg)).trans (hc j hj)⟩
     generalize nextI L has last=r at HS HK HKK k1 hneg ⊢;have hh1:=HS.out.h1;go_wp2;go_loopw [11,12] (fun o i wr=>∃j n:Nat,j≤L.length∧i=.int .i64 j∧o=.int .i64 (amongI (fun y=>decide (y.round<r)) L has j)∧wr=wc.drewN n) (fun _ i _=>L.length-(intOf i).toNat)
     case atStart=>exact⟨0,0,by omega,rfl,rfl,rfl⟩
     case round=>
       obtain⟨j,n,hj,rfl,rfl,rfl⟩:=hrel;by_cases hlt:j<L.length
       · have hbd:=Lc.among_bd (fun y=>decide (y.round<r)) L has j (by omega);have HA:Hid (amongI (fun y=>decide (y.round<r)) L has (j+1)=if bit has j&&decide ((at' L j).round<r) then withB (amongI (fun y=>decide (y.round<r)) L has j) j else amongI (fun y=>decide (y.round<r)) L has j):=rfl;have HW:Hid (bits .or .i64 (amongI (fun y=>decide (y.round<r)) L has j) (2 ^ j)=withB (amongI (fun y=>decide (y.round<r)) L has j) j):=Base.shl_or _ j hbd.1 hbd.2 (by omega);obtain⟨g,off,hao,hg,hc⟩:=HRV.out.at j hlt;subst hao;obtain⟨_,e1,_,_⟩:=hc;clear hbd;generalize amongI (fun y=>decide (y.round<r)) L has j=x at HA HW ⊢
         cases hb:bit has j
         · have HD:Hid (amongI (fun y=>decide (y.round<r)) L has (j+1)=x):=by show _=_;rw [HA.out,hb];rfl
           have hcall:=has_call' has j false h0 h1 (by omega) hb;clear hb HA HW;go_wp2_with fail
           go_quiet (first | (go_at_call 45;exact(hcall _).mono fun _ _ h=>⟨h.1,_,h.2⟩))
           go_wp2;go_roundw
           case rel=>exact⟨j+1,n+nq,by omega,by go_num,by rw [HD.out],by simp⟩
           case measure=>simp [intOf];omega
         · have hcall:=has_call' has j true h0 h1 (by omega) hb;by_cases hq:(at' L j).round<r
           · have HD:Hid (amongI (fun y=>decide (y.round<r)) L has (j+1)=withB x j):=by show _=_;rw [HA.out,hb];simp [hq]
             clear hb HA;go_wp2_with fail
             go_quiet (first | (go_at_call 45;exact(hcall _).mono fun _ _ h=>⟨h.1,_,h.2⟩))
             go_wp2_with (go_at_call 82;refine(Base.l1Bit _ _ (by omega) (by omega)).mono ?_;rintro e w' ⟨rfl,rfl⟩;rw [Int.toNat_natCast])
             go_roundw
             case rel=>exact⟨j+1,n+nq,by omega,by go_num,by rw [HD.out,HW.out],by simp⟩
             case measure=>simp [intOf];omega
           · have HD:Hid (amongI (fun y=>decide (y.round<r)) L has (j+1)=x):=by show _=_;rw [HA.out,hb];simp [hq]
             have hq1:decide ((at' L j).round<r)=false:=decide_eq_false hq;clear hb HA HW;go_wp2_with fail
             go_quiet (first | (go_at_call 45;exact(hcall _).mono fun _ _ h=>⟨h.1,_,h.2⟩))
             go_wp2;go_roundw
             case rel=>exact⟨j+1,n+nq,by omega,by go_num,by rw [HD.out],by simp⟩
             case measure=>simp [intOf];omega
       · obtain rfl:j=L.length:=by omega
         have hsb:=Lc.among_bd (fun y=>decide (y.round<r)) L has L.length hL;go_wp2_with fail
         refine(Sg.l4Tips bo bc l _ _ hl60 hsb.1 hsb.2 (Lst_drewN HLV.out n)).mono ?_;rintro e w3 ⟨rfl,n3,rfl⟩;have HSt:Hid (DrSt w ((wc.drewN (n+n3)).setCell ⟨kb,2,none⟩ (.int .i64 (Sg.tipsTo l (amongI (fun y=>decide (y.round<r)) L has L.length) l.length))) kb who has r (Sg.tipsTo l (amongI (fun y=>decide (y.round<r)) L has L.length) l.length) word):=dr_put HS.out _ _;have HKe:Hid (draftB L l who has last word=okK ⟨who,r,Sg.tipsTo l (amongI (fun y=>decide (y.round<r)) L has L.length) l.length,word⟩):=HK.out;have HKKe:Hid (draftK L l who has last word=⟨who,r,Sg.tipsTo l (amongI (fun y=>decide (y.round<r)) L has L.length) l.length,word⟩):=HKK.out;have q0:=HS.out.k0;have q2:=HS.out.k2;have q3:=HS.out.k3;have qf:=HS.out.f2;clear hsb HK HKK;rw [World.drewN_drewN];generalize Sg.tipsTo l (amongI (fun y=>decide (y.round<r)) L has L.length) l.length=tp at HSt HKe HKKe ⊢;generalize amongI (fun y=>decide (y.round<r)) L has L.length=sp;go_wp2_with fail
         generalize (wc.drewN (n+n3)).setCell ⟨kb,2,none⟩ (.int .i64 tp)=V5 at HSt ⊢;clear q0 q2 q3 qf HS HRV HLV hh1 k1;refine(Kn.specKnotOk who r tp word _ hwd).mono ?_;rintro e w6 ⟨rfl,hb6⟩;have Z:=HSt.out.z.below hb6;have zf0:=Z.f0;have zf1:=Z.f1;have zf2:=Z.f2;have zf3:=Z.f3;have zr0:=Z.r0;have zr1:=Z.r1;have zr2:=Z.r2;have zr3:=Z.r3;have B6:=HSt.out.bel.trans (hb6.mono HSt.out.bel.size)
         cases hok:okK ⟨who,r,tp,word⟩
         · have HT:Hid (draftB L l who has last word=false):=HKe.out.trans hok;have HQ:Hid _:=Z.put (.int .i64 0) (.int .i64 0) (.int .i64 0) (.string ⟨#[]⟩);have HBE:Hid _:=below_rb B6 (.int .i64 0) (.int .i64 0) (.int .i64 0) (.string ⟨#[]⟩);clear Z hok HSt hb6 B6;go_wp2;obtain⟨y0,y1,y2,y3⟩:=HQ.out;exact bodyPost_ret (v:=.tuple #[.agg #[.int .i64 0,.int .i64 0,.int .i64 0,.string ⟨#[]⟩],.bool false]) (by simp [results,Tryz.results178,go_sem,y0,y1,y2,y3]) rfl (draft_no HT.out HBE.out)
         · have HT:Hid (draftB L l who has last word=true):=HKe.out.trans hok;have hkl:=HSt.out.lt;have m0:=(hb6.cell (p:=⟨kb,0,none⟩) hkl).trans HSt.out.k0;have m1:=(hb6.cell (p:=⟨kb,1,none⟩) hkl).trans HSt.out.k1;have m2:=(hb6.cell (p:=⟨kb,2,none⟩) hkl).trans HSt.out.k2;have m3:=(hb6.cell (p:=⟨kb,3,none⟩) hkl).trans HSt.out.k3;have HQ:Hid _:=Z.put (.int .i64 who) (.int .i64 r) (.int .i64 tp) (.string word);have HBE:Hid _:=below_rb B6 (.int .i64 who) (.int .i64 r) (.int .i64 tp) (.string word);clear Z hok HSt hb6 B6;go_wp2;obtain⟨y0,y1,y2,y3⟩:=HQ.out;exact bodyPost_ret (v:=.tuple #[.agg #[.int .i64 who,.int .i64 r,.int .i64 tp,.string word],.bool true]) (by simp [results,Tryz.results178,go_sem,y0,y1,y2,y3]) rfl (draft_yes HT.out HKKe.out HBE.out)
end Rm
namespace Rm
open Kn (K okK Zero)
open Bit (bit)
open Sg (orB belows)
open Lc (at' RdK laceB takesB flat OwnK CellsK cellsOf HandsOk)
def zeroK:K:=⟨0,0,0,⟨#[]⟩⟩
def draftZ(L:List K)(l:List Int)(who has last:Int)(word:ByteArray):K:=if draftB L l who has last word then draftK L l who has last word else zeroK
theorem draft_one{L:List K}{l:List Int}{who has last:Int}{word:ByteArray}{w w':World}{e:Ending}(h:DraftPost L l who has last word w e w') :
  e=.returned (.tuple #[.agg #[.int .i64 (draftZ L l who has last word).hand,.int .i64 (draftZ L l who has last word).round,.int .i64 (draftZ L l who has last word).frm,.string (draftZ L l who has last word).word],.bool (draftB L l who has last word)])∧Below w.heap.size w w':=by
 obtain⟨⟨hb,he⟩ | ⟨hb,he⟩,hbe⟩:=h
 ·refine⟨?_,hbe⟩;rw [he];unfold draftZ;rw [hb];rfl
 ·refine⟨?_,hbe⟩;rw [he];unfold draftZ;rw [hb];rfl
def tieK(L:List K)(h:Hd)(word:ByteArray):K:=draftZ L (belows L L.length) h.who h.has h.last word
def tieB(L:List K)(h:Hd)(word:ByteArray):Bool:=draftB L (belows L L.length) h.who h.has h.last word&&takesB L (tieK L h word)
def TiePost(ao:Option Addr)(cap:Nat)(L:List K)(h:Hd)(word:ByteArray)(w:World)(e:Ending)(w':World):Prop:=
 ((tieB L h word=false∧e=.returned (.tuple #[.slice ao L.length cap,.agg #[.int .i64 h.who,.int .i64 h.has,.int .i64 h.kept,.int .i64 h.last],.bool false])) ∨
  (tieB L h word=true∧∃v,e=.returned (.tuple #[v,.agg #[.int .i64 h.who,.int .i64 (orB h.has (2 ^ L.length)),.int .i64 (orB h.has (2 ^ L.length)),.int .i64 (L.length:Int)],.bool true])∧OwnK 38 w.heap.size w' v (L++[tieK L h word])))∧Below w.heap.size w w'
structure TiSt(w V:World)(kb:Nat)(h:Hd)(k:K):Prop where
 bel:Below w.heap.size w V
 h:HAt V w.heap.size 0 h
 z:HAt V (w.heap.size+1) 0 ⟨0,0,0,0⟩
 k:CellsK V kb 0 k
 lt:kb<V.heap.size
 gt:w.heap.size+1<kb
theorem keepD{W V:World}{o:Obj}(h:Below (W.alloc o).heap.size (W.alloc o) V):Below W.heap.size W V:=((Below.refl _ W).alloc (Nat.le_refl _) o).trans (h.mono (by simp))
theorem keepZ2{W V:World}{t:TypeId}(h:Below (W.alloc (.cells #[.int .i64 0,.int .i64 0,.int .i64 0,.string ⟨#[]⟩] t)).heap.size (W.alloc (.cells #[.int .i64 0,.int .i64 0,.int .i64 0,.string ⟨#[]⟩] t)) V):Zero W.heap.size V:=(Kn.zero_new W t).below h
structure TiBeg(w W:World)(h:Hd):Prop where
 bel:Below w.heap.size w W
 h:HAt W w.heap.size 0 h
 z:HAt W (w.heap.size+1) 0 ⟨0,0,0,0⟩
theorem tibeg(w:World)(h:Hd)(t:TypeId):TiBeg w ((w.alloc (.cells #[.int .i64 h.who,.int .i64 h.has,.int .i64 h.kept,.int .i64 h.last] t)).alloc (.cells #[.int .i64 0,.int .i64 0,.int .i64 0,.int .i64 0] t)) h:=by
 refine⟨((Below.refl _ w).alloc (Nat.le_refl _) _).alloc (by simp) _,hat_below (hat_new w h t) ((Below.refl _ _).alloc (Nat.le_refl _) _),?_⟩;have:=hat_new (w.alloc (.cells #[.int .i64 h.who,.int .i64 h.has,.int .i64 h.kept,.int .i64 h.last] t)) ⟨0,0,0,0⟩ t;simpa using this
theorem tiA{w W V:World}{h:Hd}(b:TiBeg w W h)(hb:Below W.heap.size W V)(k:K)(t:TypeId):TiSt w (V.alloc (.cells #[.int .i64 k.hand,.int .i64 k.round,.int .i64 k.frm,.string k.word] t)) V.heap.size h k where
 bel:=(b.bel.trans (hb.mono b.bel.size)).alloc (Nat.le_trans b.bel.size hb.size) _
 h:=hat_below (hat_below b.h hb) ((Below.refl _ _).alloc (Nat.le_refl _) _)
 z:=hat_below (hat_below b.z hb) ((Below.refl _ _).alloc (Nat.le_refl _) _)
 k:=⟨by simp,by simp,by simp,by simp⟩
 lt:=by simp
 gt:=Nat.lt_of_lt_of_le b.z.lt hb.size
theorem tiB{w W V:World}{h:Hd}(b:TiBeg w W h)(hb:Below W.heap.size W V){kb:Nat}(hk:W.heap.size≤kb)(z:Zero kb V)(k:K):TiSt w ((((V.setCell ⟨kb,0,none⟩ (.int .i64 k.hand)).setCell ⟨kb,1,none⟩ (.int .i64 k.round)).setCell ⟨kb,2,none⟩ (.int .i64 k.frm)).setCell ⟨kb,3,none⟩ (.string k.word)) kb h k:=by
 have hf:Fr (fun x=>x=kb) V ((((V.setCell ⟨kb,0,none⟩ (.int .i64 k.hand)).setCell ⟨kb,1,none⟩ (.int .i64 k.round)).setCell ⟨kb,2,none⟩ (.int .i64 k.frm)).setCell ⟨kb,3,none⟩ (.string k.word)):=
   (((Fr.set V ⟨kb,0,none⟩ _).trans (Fr.set _ ⟨kb,1,none⟩ _) (fun x hx _=>hx)).trans (Fr.set _ ⟨kb,2,none⟩ _) (fun x hx _=>hx)).trans (Fr.set _ ⟨kb,3,none⟩ _) (fun x hx _=>hx)
 have h1:=b.h.lt;have h2:=b.z.lt;have hp:=z.put (.int .i64 k.hand) (.int .i64 k.round) (.int .i64 k.frm) (.string k.word);exact {
   bel:=(b.bel.trans (hb.mono b.bel.size)).trans (hf.toBelow (Nat.le_trans b.bel.size hb.size) (fun x hx=>by subst hx;exact Nat.le_trans b.bel.size hk))
   h:=hat_fr (hat_below b.h hb) hf (by omega)
   z:=hat_fr (hat_below b.z hb) hf (by omega)
   k:=⟨hp.1,hp.2.1,hp.2.2.1,hp.2.2.2⟩
   lt:=by simpa using z.lt
   gt:=Nat.lt_of_lt_of_le h2 hk }
theorem ti_set{w V:World}{kb:Nat}{h h':Hd}{k:K}{j:Nat}{u:Value}(x:TiSt w V kb h k)(hh:HAt (V.setCell ⟨w.heap.size,j,none⟩ u) w.heap.size 0 h'):TiSt w (V.setCell ⟨w.heap.size,j,none⟩ u) kb h' k where
 bel:=x.bel.setCell (p:=⟨w.heap.size,j,none⟩) (Nat.le_refl _) u
 h:=hh
 z:=hat_other x.z (by omega) u
 k:=by
  have hn:∀i,(⟨w.heap.size,j,none⟩:Addr)≠⟨kb,i,none⟩:=fun i e=>by injection e with e _;have:=x.gt;omega
  exact⟨(World.cell?_setCell_other _ _ _ _ (hn _)).trans x.k.c0,(World.cell?_setCell_other _ _ _ _ (hn _)).trans x.k.c1,(World.cell?_setCell_other _ _ _ _ (hn _)).trans x.k.c2,(World.cell?_setCell_other _ _ _ _ (hn _)).trans x.k.c3⟩
 lt:=by simpa using x.lt
 gt:=x.gt
theorem ti_drew{w V:World}{kb:Nat}{h:Hd}{k:K}(x:TiSt w V kb h k):TiSt w V.drew kb h k:=⟨x.bel.drew,hat_drew x.h,hat_drew x.z,⟨x.k.c0,x.k.c1,x.k.c2,x.k.c3⟩,x.lt,x.gt⟩
theorem tie_no{ao:Option Addr}{cap:Nat}{L:List K}{h:Hd}{word:ByteArray}{w w':World}(hb:tieB L h word=false)(hbe:Below w.heap.size w w'):TiePost ao cap L h word w (.returned (.tuple #[.slice ao L.length cap,.agg #[.int .i64 h.who,.int .i64 h.has,.int .i64 h.kept,.int .i64 h.last],.bool false])) w':=⟨.inl ⟨hb,rfl⟩,hbe⟩
theorem tie_yes{ao:Option Addr}{cap:Nat}{L:List K}{h:Hd}{word:ByteArray}{w w':World}{v:Value}{k:K}(hb:tieB L h word=true)(hk:tieK L h word=k)(ho:OwnK 38 w.heap.size w' v (L++[k]))(hbe:Below w.heap.size w w'):TiePost ao cap L h word w (.returned (.tuple #[v,.agg #[.int .i64 h.who,.int .i64 (orB h.has (2 ^ L.length)),.int .i64 (orB h.has (2 ^ L.length)),.int .i64 (L.length:Int)],.bool true])) w':=by
 subst hk;exact⟨.inr ⟨hb,v,rfl,ho⟩,hbe⟩
theorem ownK_put{t:TypeId}{b p:Nat}{V:World}{v:Value}{L:List K}(h:OwnK t b V v L)(hp:p<b)(v0 v1 v2 v3:Value):OwnK t b ((((V.setCell ⟨p,0,none⟩ v0).setCell ⟨p,1,none⟩ v1).setCell ⟨p,2,none⟩ v2).setCell ⟨p,3,none⟩ v3) v L:=
 ⟨ownsRow_setCell_below (ownsRow_setCell_below (ownsRow_setCell_below (ownsRow_setCell_below h.1 (a:=⟨p,0,none⟩) hp v0) (a:=⟨p,1,none⟩) hp v1) (a:=⟨p,2,none⟩) hp v2) (a:=⟨p,3,none⟩) hp v3,h.2⟩
def NoEnd(ao:Option Addr)(cap:Nat)(L:List K)(h:Hd)(word:ByteArray)(w V:World):Prop:=
 TiePost ao cap L h word w (.returned (.tuple #[.slice ao L.length cap,.agg #[.int .i64 h.who,.int .i64 h.has,.int .i64 h.kept,.int .i64 h.last],.bool false])) (((((V.setCell ⟨w.heap.size+1,0,none⟩ (.int .i64 h.who)).setCell ⟨w.heap.size+1,1,none⟩ (.int .i64 h.has)).setCell ⟨w.heap.size+1,2,none⟩ (.int .i64 h.kept)).setCell ⟨w.heap.size+1,3,none⟩ (.int .i64 h.last)).drew)
theorem no_end{ao:Option Addr}{cap:Nat}{L:List K}{h:Hd}{word:ByteArray}{w V:World}(hb:Below w.heap.size w V)(ht:tieB L h word=false):NoEnd ao cap L h word w V:=tie_no ht (below_rb hb _ _ _ _).drew
def YesEnd(ao:Option Addr)(cap:Nat)(L:List K)(h:Hd)(word:ByteArray)(w V:World)(v:Value):Prop:=
 TiePost ao cap L h word w (.returned (.tuple #[v,.agg #[.int .i64 h.who,.int .i64 (orB h.has (2 ^ L.length)),.int .i64 (orB h.has (2 ^ L.length)),.int .i64 (L.length:Int)],.bool true])) (((((V.setCell ⟨w.heap.size+1,0,none⟩ (.int .i64 h.who)).setCell ⟨w.heap.size+1,1,none⟩ (.int .i64 (orB h.has (2 ^ L.length)))).setCell ⟨w.heap.size+1,2,none⟩ (.int .i64 (orB h.has (2 ^ L.length)))).setCell ⟨w.heap.size+1,3,none⟩ (.int .i64 (L.length:Int))))
theorem yes_end{ao:Option Addr}{cap:Nat}{L:List K}{h:Hd}{word:ByteArray}{w V:World}{v:Value}{k:K}{B:Nat}(hb:Below w.heap.size w V)(ht:tieB L h word=true)(hk:tieK L h word=k)(hB:w.heap.size+1<B)(ho:OwnK 38 B V v (L++[k])):YesEnd ao cap L h word w V v:=by
 have h1:=ownK_put ho hB (.int .i64 h.who) (.int .i64 (orB h.has (2 ^ L.length))) (.int .i64 (orB h.has (2 ^ L.length))) (.int .i64 (L.length:Int));have h2:=Lc.ownK_base h1 (show w.heap.size≤B by omega);exact tie_yes ht hk h2 (below_rb hb _ _ _ _)
theorem tieK_word(L:List K)(h:Hd)(word:ByteArray)(hw:word.size≤1099511627776):(tieK L h word).word.size≤1099511627776:=by
 unfold tieK draftZ;split
 ·exact hw
 ·show(ByteArray.mk #[]).size≤_;decide
theorem l14Tie(ao:Option Addr)(cap:Nat)(L:List K)(h:Hd)(word:ByteArray)(w:World)(ho:ao=none→L=[]∧cap=0)(hz:∀x,ao=some x→x.spot=none)(hcap:L.length≤cap)(hl:laceB L=true)(hr:RdK w ao L)(hok:HdOk L.length h)(hwd:word.size≤1099511627776) :
   Calls Tryz.prog 160 #[.slice ao L.length cap,.agg #[.int .i64 h.who,.int .i64 h.has,.int .i64 h.kept,.int .i64 h.last],.string word] w (TiePost ao cap L h word w):=by
 have P0:Hid (TiBeg w ((w.alloc (.cells #[.int .i64 h.who,.int .i64 h.has,.int .i64 h.kept,.int .i64 h.last] 186)).alloc (.cells #[.int .i64 0,.int .i64 0,.int .i64 0,.int .i64 0] 186)) h):=tibeg w h _;have h60:=((Lc.lace_iff L).1 hl).1;have hh:=Lc.lace_hands hl;have hf:=Sg.frm_lace hl;have HBL:Hid ((belows L L.length).length=L.length):=Sg.belows_len L L.length;have HCA:Hid (∀W:World,RdK W ao L→Calls Tryz.prog 48 #[.slice ao L.length cap] W (Sg.NumsPost (belows L L.length) W)):=fun W hW=>Sg.l4All ao cap L W h60 hf hW
 have HCD : Hid (∀(W:World) (bo:Option Addr) (bc:Nat),RdK W ao L→Lst.Rd W bo (belows L L.length)→(∀g,bo=some ⟨g,0,none⟩→g<W.heap.size)→Calls Tryz.prog 178 #[.slice ao L.length cap,.slice bo (belows L L.length).length bc,.agg #[.int .i64 h.who,.int .i64 h.has,.int .i64 h.kept,.int .i64 h.last],.string word] W fun e w'=>
     e=.returned (.tuple #[.agg #[.int .i64 (tieK L h word).hand,.int .i64 (tieK L h word).round,.int .i64 (tieK L h word).frm,.string (tieK L h word).word],.bool (draftB L (belows L L.length) h.who h.has h.last word)])∧Below W.heap.size W w'):=
   fun W bo bc hW hB hg=>(l14Draft ao cap L bo bc (belows L L.length) h.who h.has h.kept h.last word W h60 HBL.out hh hW hB hg hok.h0 hok.h1 hok.la hwd).mono fun _ _ x=>draft_one x
 have HKW:=tieK_word L h word hwd;have HTB:Hid (tieB L h word=(draftB L (belows L L.length) h.who h.has h.last word&&takesB L (tieK L h word))):=rfl;generalize hke:tieK L h word=k at HCD HTB HKW;have HKE:Hid (tieK L h word=k):=hke;clear hke;generalize draftB L (belows L L.length) h.who h.has h.last word=db at HCD HTB;generalize belows L L.length=l at HBL HCA HCD;go_enter Tryz.func160,Tryz.ntmps160
 go_wp2_with fail
 generalize (w.alloc (.cells #[.int .i64 h.who,.int .i64 h.has,.int .i64 h.kept,.int .i64 h.last] 186)).alloc (.cells #[.int .i64 0,.int .i64 0,.int .i64 0,.int .i64 0] 186)=W at P0 ⊢;have hlt0:=P0.out.h.lt;have HR0:Hid (RdK W ao L):=hr.below P0.out.bel;have d0:=P0.out.h.c0;have d1:=P0.out.h.c1;have d2:=P0.out.h.c2;have d3:=P0.out.h.c3;simp only [Nat.zero_add] at d1 d2 d3;have HLR:Hid (∀{X V:World} {bo:Option Addr} {bc:Nat} {B:Nat},Memb.Own B X bo bc l→Below X.heap.size X V→Lst.Rd V bo l∧∀g,bo=some ⟨g,0,none⟩→g<V.heap.size):=by
   intro X V bo bc B hown hb;have hrd:=Lst.own_rd hown;have hlt:=World.ownsRow.lt hown;have hg:∀g,bo=some ⟨g,0,none⟩→g<X.heap.size:=fun g hg=>(hlt g (by rw [hg];rfl)).2
   refine⟨?_,fun g hg'=>Nat.lt_of_lt_of_le (hg g hg') hb.size⟩;rcases hrd with h | ⟨g,hg',hc⟩
   · exact .inl h
   · exact .inr ⟨g,hg',fun j hj=>(hb.cell (p:=⟨g,j,none⟩) (hg g hg')).trans (hc j hj)⟩
 have HCT:Hid (∀W:World,RdK W ao L→Calls Tryz.prog 159 #[.slice ao L.length cap,.agg #[.int .i64 k.hand,.int .i64 k.round,.int .i64 k.frm,.string k.word]] W fun e w'=>e=.returned (.bool (takesB L k))∧Below W.heap.size W w'):=fun W hW=>l3CanTieO ao cap L k W ho hz hcap hl HKW hW
 have HCC:Hid (∀W:World,RdK W ao L→Calls Tryz.prog 114 #[.slice ao L.length cap] W (Lc.CopyPost L W)):=fun W hW=>l3CopyO ao cap L W ho hz (by omega) hW
 clear hcap hwd;go_cut [9,10] (fun kp is wx=>∃kb:Nat,kp=.pointer (some ⟨kb,0,none⟩)∧is=.bool db∧Hid (TiSt w wx kb h k))
 case first=>
   go_region_with (first
     | (go_at_call 48;refine(HCA.out _ (by first | exact HR0.out.drew | exact(HR0.out.below ((Below.refl _ _).alloc (Nat.le_refl _) _)).drew | exact HR0.out.drew.below ((Below.refl _ _).alloc (Nat.le_refl _) _))).mono ?_;rintro e V1 ⟨bo,bc,rfl,hown,b1⟩;(first | have B1:=keepC b1 | have B1:=keepB b1 | have B1:=keepA b1);(first | have Z1:=keepZ b1 | have Z1:=keepZ' b1 | skip);have e0:=(B1.cell (p:=⟨w.heap.size,0,none⟩) hlt0).trans d0;have e1:=(B1.cell (p:=⟨w.heap.size,1,none⟩) hlt0).trans d1;have e2:=(B1.cell (p:=⟨w.heap.size,2,none⟩) hlt0).trans d2;have e3:=(B1.cell (p:=⟨w.heap.size,3,none⟩) hlt0).trans d3;have hlt1:=Nat.lt_of_lt_of_le hlt0 B1.size;have HO:Hid _:=hown;clear hown b1)
     | (go_at_call 178;refine(HCD.out _ bo bc (by first | exact HR0.out.below B1 | exact HR0.out.below (B1.alloc B1.size _)) (by first | exact(HLR.out HO.out (Below.refl _ _)).1 | exact(HLR.out HO.out ((Below.refl _ _).alloc (Nat.le_refl _) _)).1) (by first | exact(HLR.out HO.out (Below.refl _ _)).2 | exact(HLR.out HO.out ((Below.refl _ _).alloc (Nat.le_refl _) _)).2)).mono ?_;rintro e V2 ⟨rfl,b2⟩;(first | have B2:=B1.trans ((keepD b2).mono B1.size) | have B2:=B1.trans (b2.mono B1.size));(first | have Z2:=keepZ2 b2 | have Z2:=Z1.below b2 | skip);(first | (have zr0:=Z2.r0;have zr1:=Z2.r1;have zr2:=Z2.r2;have zr3:=Z2.r3;have zf0:=Z2.f0;have zf1:=Z2.f1;have zf2:=Z2.f2;have zf3:=Z2.f3) | skip);clear b2))
   all_goals (go_wp2_with fail)
   all_goals go_meet
   all_goals
     first
       | exact⟨_,rfl,rfl,tiA P0.out B2 k _⟩
       | exact⟨_,rfl,rfl,tiB P0.out B2 (Nat.le_refl _) Z2 k⟩
       | exact⟨_,rfl,rfl,tiB P0.out B2 B1.size Z2 k⟩
 case rest=>
   obtain⟨kb,rfl,rfl,HS⟩:=hcut;clear HCA HCD HLR HR0 d0 d1 d2 d3 hlt0 P0 HBL;obtain⟨i0,hi,hz0,hz1,hz2⟩:=info_parts Lc.infoKn
   cases db
   · have HT:Hid (tieB L h word=false):=HTB.out;have HQ:Hid _:=hput HS.out.z (.int .i64 h.who) (.int .i64 h.has) (.int .i64 h.kept) (.int .i64 h.last);have HN:Hid (NoEnd ao cap L h word w wc):=no_end HS.out.bel HT.out;obtain⟨_,a0,a1,a2,a3,_,_,_,_⟩:=HS.out.h;obtain⟨_,z0,z1,z2,z3,f0,f1,f2,f3⟩:=HS.out.z;simp only [Nat.zero_add] at a1 a2 a3 z1 z2 z3 f1 f2 f3;clear HS HTB;go_wp2_with fail
     go_region
     all_goals
       go_wp2;obtain⟨y0,y1,y2,y3⟩:=HQ.out;exact bodyPost_ret (v:=.tuple #[.slice ao L.length cap,.agg #[.int .i64 h.who,.int .i64 h.has,.int .i64 h.kept,.int .i64 h.last],.bool false]) (by simp [results,Tryz.results160,go_sem,y0,y1,y2,y3]) rfl HN.out
   · have HTB2:Hid (tieB L h word=takesB L k):=HTB.out;obtain⟨k0,k1,k2,k3⟩:=HS.out.k;rw [Nat.zero_add] at k1 k2 k3;clear HTB;go_wp2_with fail
     refine(HCT.out _ (hr.below HS.out.bel)).mono ?_;rintro e w2 ⟨rfl,hb2⟩;have HS2:Hid (TiSt w w2 kb h k):=⟨HS.out.bel.trans (hb2.mono HS.out.bel.size),hat_below HS.out.h hb2,hat_below HS.out.z hb2,HS.out.k.below hb2 HS.out.lt,Nat.lt_of_lt_of_le HS.out.lt hb2.size,HS.out.gt⟩
     clear hb2 HS k0 k1 k2 k3
     cases htk:takesB L k
     · have HT:Hid (tieB L h word=false):=HTB2.out.trans htk;have HQ:Hid _:=hput HS2.out.z (.int .i64 h.who) (.int .i64 h.has) (.int .i64 h.kept) (.int .i64 h.last);have HN:Hid (NoEnd ao cap L h word w w2):=no_end HS2.out.bel HT.out;obtain⟨_,a0,a1,a2,a3,_,_,_,_⟩:=HS2.out.h;obtain⟨_,z0,z1,z2,z3,f0,f1,f2,f3⟩:=HS2.out.z;simp only [Nat.zero_add] at a1 a2 a3 z1 z2 z3 f1 f2 f3;clear HS2 HTB2 htk;go_wp2_with fail
       go_region
       all_goals
         go_wp2;obtain⟨y0,y1,y2,y3⟩:=HQ.out;exact bodyPost_ret (v:=.tuple #[.slice ao L.length cap,.agg #[.int .i64 h.who,.int .i64 h.has,.int .i64 h.kept,.int .i64 h.last],.bool false]) (by simp [results,Tryz.results160,go_sem,y0,y1,y2,y3]) rfl HN.out
     · have HT:Hid (tieB L h word=true):=HTB2.out.trans htk;have hn60:L.length<60:=by
         have:(decide (L.length<60)&&Lc.canB L k)=true:=htk;simp at this;exact this.1
       have HOr:Hid (bits .or .i64 h.has (2 ^ L.length)=orB h.has (2 ^ L.length)):=Sg.or_eq _ _ hok.h0 hok.h1 (Int.le_of_lt (Bit.pow_pos' _)) (Base.pow_bd L.length hn60).2;clear HTB2 htk;have HS3:Hid (TiSt w (w2.setCell ⟨w.heap.size,1,none⟩ (.int .i64 (orB h.has (2 ^ L.length)))).drew kb { h with has:=orB h.has (2 ^ L.length) } k):=ti_drew (ti_set HS2.out (hat_has HS2.out.h _));have a1:=HS2.out.h.c1;have f1:=HS2.out.h.f1;simp only [Nat.zero_add] at a1 f1;clear HS2;go_upto_region 5 with fail
       go_cut [11] (fun x wx=>x=.int .i64 (L.length:Int)∧Hid (TiSt w wx kb { h with has:=orB h.has (2 ^ L.length) } k))
       case first=>
         go_region_with (go_at_call 82;refine(Base.l1Bit _ _ (by omega) (by omega)).mono ?_;rintro e w' ⟨rfl,rfl⟩;rw [Int.toNat_natCast])
         all_goals (go_wp2_with fail)
         all_goals go_meet
         all_goals exact⟨rfl,by rw [HOr.out];exact HS3.out⟩
       case rest=>
         obtain⟨rfl,HS4⟩:=hcut;clear HS3 a1 f1;have HS5:Hid (TiSt w ((wc.setCell ⟨w.heap.size,2,none⟩ (.int .i64 (orB h.has (2 ^ L.length)))).setCell ⟨w.heap.size,3,none⟩ (.int .i64 (L.length:Int))) kb ⟨h.who,orB h.has (2 ^ L.length),orB h.has (2 ^ L.length),(L.length:Int)⟩ k):=by
           have s1:=ti_set HS4.out (hat_kept HS4.out.h (orB h.has (2 ^ L.length)));exact ti_set s1 (hat_last s1.h (L.length:Int))
         have a1:=HS4.out.h.c1;have a2:=HS4.out.h.c2;have a3:=HS4.out.h.c3;have f2:=HS4.out.h.f2;have f3:=HS4.out.h.f3;simp only [Nat.zero_add] at a1 a2 a3 f2 f3;clear HS4;go_wp2_with fail
         generalize (wc.setCell ⟨w.heap.size,2,none⟩ (.int .i64 (orB h.has (2 ^ L.length)))).setCell ⟨w.heap.size,3,none⟩ (.int .i64 (L.length:Int))=W8 at HS5 ⊢;clear a1 a2 a3 f2 f3;have hr8:Hid (RdK W8 ao L):=hr.below HS5.out.bel;obtain⟨_,a0,a1,a2,a3,_,_,_,_⟩:=HS5.out.h;obtain⟨k0,k1,k2,k3⟩:=HS5.out.k;simp only [Nat.zero_add] at a1 a2 a3 k1 k2 k3;have hbl:w.heap.size<W8.heap.size:=HS5.out.h.lt;have hzl:w.heap.size+1<W8.heap.size:=HS5.out.z.lt;have hkl:=HS5.out.lt;have HFIN : Hid (∀(V4 V5:World) (v1 v2:Value),v1≠.slice none 0 0→V4.ownsRow W8.heap.size 38 4 v1 L.length (flat L)→Below W8.heap.size W8 V4→V5.ownsRow W8.heap.size 38 4 v2 (L.length+1) (flat L++cellsOf k)→V4.grownBy V5 v1.ownBlock→(v2=.slice none 0 0↔v1=.slice none 0 0∧1=0) →
             Hid (YesEnd ao cap L h word w V5 v2)∧Below W8.heap.size W8 V5∧HAt V5 w.heap.size 0 ⟨h.who,orB h.has (2 ^ L.length),orB h.has (2 ^ L.length),(L.length:Int)⟩∧HAt V5 (w.heap.size+1) 0 ⟨0,0,0,0⟩):=by
           intro V4 V5 v1 v2 hne ho4 hb4 ho5 hg5 hn5;obtain⟨O5,B5⟩:=Lc.ownK_app hne ho4 hb4 hb4.size ho5 hg5 hn5;exact⟨yes_end (HS5.out.bel.trans (B5.mono HS5.out.bel.size)) HT.out HKE.out hzl O5,B5,hat_below HS5.out.h B5,hat_below HS5.out.z B5⟩
         clear hok ho hz hl hr HCT;go_region_law (first
           | (refine Lc.step_own rfl (.tmp 45) (.tmp 47) 24 rfl W8.heap.size 38 i0 (.agg #[.int .i64 0,.int .i64 0,.int .i64 0,.string ⟨#[]⟩]) 4 40 Tryz.underlying24 hi hz0 hz1 hz2 rfl (by decide) v1 L.length (flat L) (by simp [Act.eval]) (O1.1.alloc _) ⟨V1.heap.size,0,none⟩ 1 1 (cellsOf k) (by simp [Act.eval]) rfl (Lc.new_cells V1 k _) (fun u hu=>Lc.flat_one [k] u (by simpa [flat] using hu)) (by unfold maxLen;omega) (by omega) (by have:=BV1.size;simp;omega) ?_
              intro v2 V5 hown2 hgrow2 hnil2;obtain⟨HE,B5,hA,hZ⟩:=HFIN.out _ V5 v1 v2 O1.2 (O1.1.alloc _) (BV1.alloc BV1.size _) hown2 hgrow2 hnil2;have HQ5:Hid _:=hput hZ (.int .i64 h.who) (.int .i64 (orB h.has (2 ^ L.length))) (.int .i64 (orB h.has (2 ^ L.length))) (.int .i64 (L.length:Int));obtain⟨_,p0,p1,p2,p3,_,_,_,_⟩:=hA;obtain⟨_,z0,z1,z2,z3,g0,g1,g2,g3⟩:=hZ;simp only [Nat.zero_add] at p1 p2 p3 z1 z2 z3 g1 g2 g3;clear hown2 hgrow2 hnil2)
           | (refine Lc.step_own rfl (.tmp 45) (.tmp 47) 24 rfl W8.heap.size 38 i0 (.agg #[.int .i64 0,.int .i64 0,.int .i64 0,.string ⟨#[]⟩]) 4 40 Tryz.underlying24 hi hz0 hz1 hz2 rfl (by decide) v1 L.length (flat L) (by simp [Act.eval]) O1.1 ⟨W8.heap.size,0,none⟩ 1 1 (cellsOf k) (by simp [Act.eval]) rfl (by first | exact Lc.kept_cells (W:=W8.drew) b1 | exact Lc.kept_cells (W:=W8) b1) (fun u hu=>Lc.flat_one [k] u (by simpa [flat] using hu)) (by unfold maxLen;omega) (by omega) BV1.size ?_
              intro v2 V5 hown2 hgrow2 hnil2;obtain⟨HE,B5,hA,hZ⟩:=HFIN.out _ V5 v1 v2 O1.2 O1.1 BV1 hown2 hgrow2 hnil2;have HQ5:Hid _:=hput hZ (.int .i64 h.who) (.int .i64 (orB h.has (2 ^ L.length))) (.int .i64 (orB h.has (2 ^ L.length))) (.int .i64 (L.length:Int));obtain⟨_,p0,p1,p2,p3,_,_,_,_⟩:=hA;obtain⟨_,z0,z1,z2,z3,g0,g1,g2,g3⟩:=hZ;simp only [Nat.zero_add] at p1 p2 p3 z1 z2 z3 g1 g2 g3;clear hown2 hgrow2 hnil2)
           | (rw [if_pos (by simp [Region.wanted])]
              go_simp
              refine(HCC.out _ (hr8.out.below (by first | exact(Below.refl _ W8).drew | exact((Below.refl _ W8).alloc (Nat.le_refl _) _).drew | exact(Below.refl _ W8).drew.alloc (Nat.le_refl _) _))).mono ?_;rintro e V1 ⟨v1,rfl,O1',b1⟩;have O1:OwnK 38 W8.heap.size V1 v1 L:=Lc.ownK_base O1' (by simp);have BV1:Below W8.heap.size W8 V1:=by
                first
                  | exact(Below.refl W8.heap.size W8).drew.trans (b1.mono (Nat.le_refl _))
                  | exact((Below.refl W8.heap.size W8).alloc (Nat.le_refl _) _).drew.trans (b1.mono (by simp))
                  | exact((Below.refl W8.heap.size W8).drew.alloc (Nat.le_refl _) _).trans (b1.mono (by simp))
              have hb1l:w.heap.size<V1.heap.size:=Nat.lt_of_lt_of_le hbl BV1.size;have hk1l:kb<V1.heap.size:=Nat.lt_of_lt_of_le hkl BV1.size;have l0:=(BV1.cell (p:=⟨kb,0,none⟩) hkl).trans k0;have l1:=(BV1.cell (p:=⟨kb,1,none⟩) hkl).trans k1;have l2:=(BV1.cell (p:=⟨kb,2,none⟩) hkl).trans k2;have l3:=(BV1.cell (p:=⟨kb,3,none⟩) hkl).trans k3;have m0:=(BV1.cell (p:=⟨w.heap.size,0,none⟩) hbl).trans a0;have m1:=(BV1.cell (p:=⟨w.heap.size,1,none⟩) hbl).trans a1;have m2:=(BV1.cell (p:=⟨w.heap.size,2,none⟩) hbl).trans a2;have m3:=(BV1.cell (p:=⟨w.heap.size,3,none⟩) hbl).trans a3;clear O1'))
         all_goals
           go_wp2;obtain⟨y0,y1,y2,y3⟩:=HQ5.out;exact bodyPost_ret (v:=.tuple #[v2,.agg #[.int .i64 h.who,.int .i64 (orB h.has (2 ^ L.length)),.int .i64 (orB h.has (2 ^ L.length)),.int .i64 (L.length:Int)],.bool true]) (by simp [results,Tryz.results160,go_sem,y0,y1,y2,y3]) rfl HE.out
end Rm
end Go.Proofs.YtbkeldfbllhlbaaGreat
