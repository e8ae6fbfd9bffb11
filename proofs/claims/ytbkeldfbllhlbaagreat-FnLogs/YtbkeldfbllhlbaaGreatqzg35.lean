/-
 What the laws on logs ask of the program, and that it holds.
 What the program's own LastTold answers: the last of the lists, in new memory.
-/
import Derived.Test.YtbkeldfbllhlbaaGreatqzg34
set_option linter.unusedVariables false
set_option maxRecDepth 100000
set_option maxHeartbeats 3200000
namespace Go.Proofs.YtbkeldfbllhlbaaGreat
open Go.RowKit
namespace Lo
open Lg (At RdL lastB told_at told_cell)
open Sg (NumsPost)
theorem lastTold0(so qo:Option Addr)(sc tc:Nat)(S:List Int)(w:World):Calls Tryz.prog 27 #[.agg #[.slice so S.length sc,.slice qo 0 tc]] w (NumsPost [] w):=by
 have HB:Hid (Below w.heap.size w (w.alloc (.cells #[.slice so S.length sc,.slice qo 0 tc] 43))∧(w.alloc (.cells #[.slice so S.length sc,.slice qo 0 tc] 43)).cell? ⟨w.heap.size,1,none⟩=some (.slice qo 0 tc)∧w.heap.size<(w.alloc (.cells #[.slice so S.length sc,.slice qo 0 tc] 43)).heap.size):=⟨(Below.refl _ _).alloc (Nat.le_refl _) _,by simp,by simp⟩
 have HP:Hid _:=Ch.nums_nil HB.out.1;go_enter Tryz.func27,Tryz.ntmps27
 go_upto_region 1 with fail
 generalize w.alloc (.cells #[.slice so S.length sc,.slice qo 0 tc] 43)=W at HB HP ⊢;have c1:=(World.cell?_alloc_lt W (.cells #[] 2) ⟨w.heap.size,1,none⟩ HB.out.2.2).trans HB.out.2.1;go_wp2;go_ret;exact⟨_,0,rfl,HP.out.1,HP.out.2⟩
theorem implLastTold(so qo:Option Addr)(sc tc:Nat)(S:List Int)(T:List (List Int))(f:At)(w:World)(hlog:RdL w so qo S T f)(hN:∀i,i<T.length→(f i).1=none→(f i).2=0)(hT:T.length≤1048576)(hTT:∀i,i<T.length→(T.getD i []).length≤1048576) :
  Calls Tryz.prog 27 #[.agg #[.slice so S.length sc,.slice qo T.length tc]] w (NumsPost (lastB T) w):=by
 by_cases h0:T.length=0
 ·obtain rfl:T=[]:=List.length_eq_zero_iff.1 h0;exact lastTold0 so qo sc tc S w
 ·obtain⟨i0,hi,hz0,hz1,hz2⟩:=info_parts Memb.info2;have hb:Below w.heap.size w (w.alloc (.cells #[.slice so S.length sc,.slice qo T.length tc] 43)):=(Below.refl _ _).alloc (Nat.le_refl _) _;have hb2:Below w.heap.size w ((w.alloc (.cells #[.slice so S.length sc,.slice qo T.length tc] 43)).alloc (.cells #[] 2)):=hb.alloc hb.size _;have hc1:((w.alloc (.cells #[.slice so S.length sc,.slice qo T.length tc] 43)).alloc (.cells #[] 2)).cell? ⟨w.heap.size,1,none⟩=some (.slice qo T.length tc):=by rw [World.cell?_alloc_lt _ _ _ (by simp)];simp
  have HL:Hid (RdL ((w.alloc (.cells #[.slice so S.length sc,.slice qo T.length tc] 43)).alloc (.cells #[] 2)) so qo S T f):=hlog.below hb2;have hown:Memb.Own (w.alloc (.cells #[.slice so S.length sc,.slice qo T.length tc] 43)).heap.size ((w.alloc (.cells #[.slice so S.length sc,.slice qo T.length tc] 43)).alloc (.cells #[] 2)) (some ⟨(w.alloc (.cells #[.slice so S.length sc,.slice qo T.length tc] 43)).heap.size,0,none⟩) 0 []:=Memb.own_empty _;have hown2:Memb.Own w.heap.size ((w.alloc (.cells #[.slice so S.length sc,.slice qo T.length tc] 43)).alloc (.cells #[] 2)) (some ⟨(w.alloc (.cells #[.slice so S.length sc,.slice qo T.length tc] 43)).heap.size,0,none⟩) 0 []:=Ch.own_base hown hb.size;obtain⟨t,ht⟩:∃t:Nat,t=T.length-1:=⟨_,rfl⟩
  have htT:(T.length:Int)-1=(t:Int):=by omega
  have hlt:(t:Int)<(T.length:Int):=by omega
  have hpos:(0:Int)<(T.length:Int):=by omega
  have hw1:IntKind.i64.wrap ((T.length:Int)-1)=(t:Int):=by rw [IntKind.wrap_i64];omega
  obtain⟨tb,toff,rfl⟩:=told_at HL.out (by omega);have HT:Hid (lastB T=T.getD t []):=by show _=_;unfold lastB;rw [ht]
  have hcell:=told_cell HL.out t (by omega);have hrow:=HL.out.row t (by omega);have hN':=hN t (by omega);have hln:=hTT t (by omega);clear hN hTT HL ht hlog;generalize T.getD t []=tl at HT hcell hrow hln;generalize (f t).1=f1 at hcell hrow hN';generalize (f t).2=f2 at hcell hN';go_enter Tryz.func27,Tryz.ntmps27
  go_upto_region 2 with fail
  rw [World.size_alloc] at hown2;generalize hv:(w.alloc (.cells #[.slice so S.length sc,.slice (some ⟨tb,toff,none⟩) T.length tc] 43)).alloc (.cells #[] 2)=W at hb2 hc1 hcell hrow hown2 ⊢;have HB:Hid (Below w.heap.size w W):=hb2;have HZ:Hid (w.heap.size≤W.heap.size):=hb2.size;clear hown hv hb hb2
  cases f1 with
  | none=>
   obtain rfl:tl=[]:=by
    rcases hrow with e | ⟨g,e,_⟩
    ·exact e
    ·cases e
   obtain rfl:f2=0:=hN' rfl;have HO:Hid (Memb.Own w.heap.size W (some ⟨w.heap.size+1,0,none⟩) 0 []):=hown2;clear hown2 hrow hN' hln;go_wp2_with (first | (at_builtin;refine wpList_append_own_none rfl _ _ 25 rfl w.heap.size 2 i0 1 Tryz.underlying25 hi (.slice (some ⟨w.heap.size+1,0,none⟩) 0 0) 0 [] (by first | rfl | simp [Act.eval]) HO.out (by first | rfl | simp [Act.eval]) ?_) | fail)
   go_wp2;go_ret;rw [HT.out];exact⟨_,0,rfl,HO.out,HB.out⟩
  | some ad=>
   have HNEW:Hid (∀(j:Nat) u,(tl.map (Value.int .i64))[j]? = some u→W.cell? (ad.add j)=some u):=by
    rcases hrow with e | ⟨g,e,hc⟩
    ·subst e;intro j u h;simp at h
    ·injection e with e;subst e;exact Rm.rd_nums (.inr ⟨g,rfl,hc⟩) rfl
   clear hrow hN';go_wp2_with (first | (at_builtin;refine wpList_append_own _ rfl _ _ 25 rfl w.heap.size 2 i0 (.int .i64 0) 1 8 Tryz.underlying25 hi hz0 hz1 hz2 rfl (by decide) (.slice (some ⟨w.heap.size+1,0,none⟩) 0 0) 0 [] (by first | rfl | simp [Act.eval]) hown2 ad tl.length f2 (tl.map (Value.int .i64)) (by first | rfl | simp [Act.eval]) (by simp) HNEW.out (Rm.nums_one tl) ?c3 ?c4 ?c5 ?_) | fail)
   case c3=>unfold maxLen;omega
   case c4=>omega
   case c5=>exact HZ.out
   intro v' w5 hown' hgrow hnil;have HR:Hid (w5.ownsRow w.heap.size 2 1 v' tl.length (tl.map (Value.int .i64))∧Below w.heap.size w w5):=
    ⟨by simpa using hown',HB.out.grown hgrow HZ.out (fun i hi=>(World.ownsRow.lt hown2 i hi).1)⟩
   clear hown' hgrow hi hz0 hz1 hz2 hnil hown2;obtain⟨ao,ca,hv,ho⟩:=Memb.own_shape HR.out.1;subst hv;go_wp2;go_ret;rw [HT.out];exact⟨ao,ca,rfl,ho,HR.out.2⟩
end Lo
namespace Lo
theorem logged_lg:Lg.ImplLogged:=fun g cap L ao cc C so sc S qo tc T f s w hl hg h0 h1 hcp=>
 implLogged g 0 cap L ao cc C so qo sc tc S T f s w (by have:=hl.l.len;omega) hl.l.words hl.l.rd (by have:=hl.c.len;omega) hl.c.rd hl.c.at' hg.rd (by have:=hg.s41;omega) (by have:=hg.t41;omega) hg.sb h0 h1
theorem logOk_lg:Lg.ImplLogOk:=fun g cap L ao cc C so sc S qo tc T f w hl hg hcp=>
 implLogOk g 0 cap L ao cc C so qo sc tc S T f w (by have:=hl.l.len;omega) hl.l.words hl.l.rd (by have:=hl.c.len;omega) hl.c.rd hl.c.at' hg.rd (by have:=hg.s41;omega) (by have:=hg.t41;omega) hg.sb
theorem lastTold_lg:Lg.ImplLastTold:=fun so sc S qo tc T f w hg=>
 implLastTold so qo sc tc S T f w hg.rd hg.tn (by have:=hg.t41;omega) (fun i hi=>by have:=hg.row i hi;omega)
end Lo
end Go.Proofs.YtbkeldfbllhlbaaGreat
