/-
 What the program's own LogOk and Logged answer, in the words of LogM and LogE; for coins of at most 2^20 numbers and lists of knots whose words have at most 2^40 bytes.
 The program hands a log out: the pages' sets and copies of their lists, in new memory.
-/
import Derived.Test.YtbkeldfbllhlbaaGreatqzg33
set_option linter.unusedVariables false
set_option maxRecDepth 100000
set_option maxHeartbeats 6400000
namespace Go.Proofs.YtbkeldfbllhlbaaGreat
open Go.RowKit
section
open Go.RowKit Go.Shelf
namespace Lo
open Kn (K okK)
open Lg
open Sg (NumsPost)
structure YSt(u0:Value)(W:World)(B gb:Nat)(a:Option Addr)(c:Nat)(S:List Int)(vo:Option Addr)(vc:Nat)(T:List (List Int))(f:At):Prop where
 lt:gb<W.heap.size
 ty:∃cur,W.heap[gb]? = some (.cells cur 43)
 x0:W.cell? ⟨gb,0,none⟩=some u0
 x1:W.cell? ⟨gb,1,none⟩=some (.slice vo T.length vc)
 own:Memb.Own B W a c S
 ll:OwnLL B W (.slice vo T.length vc) T f
 ap:∀i,i<T.length→∀g,(f i).1=some ⟨g,0,none⟩→a≠some ⟨g,0,none⟩
section
variable {u0:Value} {W:World} {B gb:Nat} {a:Option Addr} {c:Nat} {S:List Int} {vo:Option Addr} {vc:Nat} {T:List (List Int)} {f:At}
theorem YSt.below{W':World}(s:YSt u0 W B gb a c S vo vc T f)(hb:Below W.heap.size W W'):YSt u0 W' B gb a c S vo vc T f:=by
 have hg:W.grownBy W' none:=⟨hb.os,hb.tape,hb.output,hb.size,fun k hk _=>hb.block k hk⟩
 obtain⟨cur,ht⟩:=s.ty;refine⟨Nat.lt_of_lt_of_le s.lt hb.size,⟨cur,(hb.block gb s.lt).trans ht⟩,(hb.cell (p:=⟨gb,0,none⟩) s.lt).trans s.x0,(hb.cell (p:=⟨gb,1,none⟩) s.lt).trans s.x1,own_kept s.own hg (fun g e q=>by cases q),⟨?_,fun j hj=>own_kept (s.ll.each j hj) hg (fun g e q=>by cases q),s.ll.ap⟩,s.ap⟩;exact World.ownsRow.kept s.ll.row hg (by cases hv:(Value.slice vo T.length vc).ownBlock <;> simp)
theorem y_seen{V3:World}{o:Obj}{v3:Value}{x:Int}(s:YSt u0 W B gb a c S vo vc T f)(hBW:B≤W.heap.size)(h3:V3.ownsRow B 2 1 v3 (S.length+1) (S.map (Value.int .i64)++[.int .i64 x]))(hg:(W.alloc o).grownBy V3 (Value.slice a S.length c).ownBlock)(hat:v3.ownBlock=(Value.slice a S.length c).ownBlock∨v3.ownBlock=some (W.alloc o).heap.size) :
   ∃a3 c3,v3=.slice a3 (S++[x]).length c3∧YSt u0 V3 B gb a3 c3 (S++[x]) vo vc T f∧Below B W V3:=by
 have sA:=s.below ((Below.refl _ W).alloc (Nat.le_refl _) o);have hlt:=sA.lt;have hrow:∀k,(Value.slice a S.length c).ownBlock=some k→B≤k:=fun k hk=>(World.ownsRow.lt sA.own k hk).1
 have hnx:(Value.slice a S.length c).ownBlock≠some gb:=ty_ne sA.own (by decide) sA.ty;have hblk:V3.heap[gb]? = (W.alloc o).heap[gb]?:=hg.block gb hlt (fun e=>hnx e.symm);have hty:∃cur,V3.heap[gb]? = some (.cells cur 43):=by obtain⟨cur,h⟩:=sA.ty;exact⟨cur,hblk.trans h⟩
 obtain⟨g3,c3,e3⟩:∃g3 c3,v3=.slice (some ⟨g3,0,none⟩) (S++[x]).length c3:=by
   rcases h3.2 with⟨_,e⟩ | ⟨g,c,cur,e,_⟩
   · omega
   · exact⟨g,c,by rw [e];simp⟩
 subst e3;have h3':Memb.Own B V3 (some ⟨g3,0,none⟩) c3 (S++[x]):=by
   unfold Memb.Own;rw [List.map_append,List.length_append,List.length_singleton];rw [List.length_append,List.length_singleton] at h3;exact h3
 have hE : ∀ i, i < T.length → Memb.Own B V3 (f i).1 (f i).2 (T.getD i []) := fun i hi => own_kept (sA.ll.each i hi) hg (fun g e q=>by
   have h5:=s.ap i hi g e;rcases(sA.own).2 with⟨e6,_⟩ | ⟨g6,c6,cur6,e6,_⟩
   · rw [e6] at q;simp [Value.ownBlock] at q
   · injection e6 with e6 _ _;rw [e6] at q;simp [Value.ownBlock] at q;rw [e6] at h5;exact h5 (by rw [q]))
 have hR : V3.ownsRow B 25 1 (.slice vo T.length vc) T.length (vals f T) := World.ownsRow.kept sA.ll.row hg (by
   cases hv:(Value.slice vo T.length vc).ownBlock with
   | none=>exact .inl rfl
   | some k=>
     right
     intro q;rcases(sA.own).2 with⟨e6,_⟩ | ⟨g6,c6,cur6,e6,_⟩
     · rw [e6] at q;simp [Value.ownBlock] at q
     · injection e6 with e6 _ _;have:=rows_apart sA.own sA.ll.row g6 e6;rw [e6] at q;simp [Value.ownBlock] at q;rw [hv,q] at this;exact this rfl)
 have hB3:Below B W V3:=((Below.refl B W).alloc hBW o).grown hg (by simp;omega) hrow;refine⟨some ⟨g3,0,none⟩,c3,rfl,⟨?_,hty,(World.cell?_of_block (a:=⟨gb,0,none⟩) hblk).trans sA.x0,(World.cell?_of_block (a:=⟨gb,1,none⟩) hblk).trans sA.x1,h3',⟨hR,hE,s.ll.ap⟩,?_⟩,hB3⟩
 · have:=hg.size;simp at this ⊢;have:=s.lt;omega
 · intro i hi g e1 e2;injection e2 with e2;injection e2 with e2;subst e2;have h5:=s.ap i hi g3 e1;have h6:=s.ll.each i hi;rw [e1] at h6;have h7:=(World.ownsRow.lt h6 g3 rfl).2;rcases hat with q | q
   · simp [Value.ownBlock] at q;rcases(sA.own).2 with⟨e6,_⟩ | ⟨g6,c6,cur6,e6,_⟩
     · injection e6 with e6 _ _;rw [e6] at q;simp at q
     · injection e6 with e6 _ _;rw [e6] at q h5;simp at q;exact h5 (by rw [q])
   · simp [Value.ownBlock] at q;omega
theorem y_told{V1 V3:World}{o:Obj}{v3:Value}{ro:Option Addr}{rc:Nat}{l:List Int}(s:YSt u0 W B gb a c S vo vc T f)(hBW:B≤W.heap.size)(hb1:Below W.heap.size W V1)(hO:Memb.Own W.heap.size V1 ro rc l)(h3:V3.ownsRow B 25 1 v3 (T.length+1) (vals f T++[.slice ro l.length rc]))(hg:(V1.alloc o).grownBy V3 (Value.slice vo T.length vc).ownBlock) :
  ∃vo3 vc3,v3=.slice vo3 (T++[l]).length vc3∧Memb.Own B V3 a c S∧OwnLL B V3 (.slice vo3 (T++[l]).length vc3) (T++[l]) (put f T.length (ro,rc))∧(∀i,i<(T++[l]).length→∀g,(put f T.length (ro,rc) i).1=some ⟨g,0,none⟩→a≠some ⟨g,0,none⟩)∧Below B W V3:=by
 have hbA:Below W.heap.size W (V1.alloc o):=hb1.alloc hb1.size o;have sA:=s.below hbA;have hrow:∀k,(Value.slice vo T.length vc).ownBlock=some k→B≤k:=fun k hk=>(World.ownsRow.lt sA.ll.row k hk).1
 obtain⟨g3,c3,e3⟩:∃g3 c3,v3=.slice (some ⟨g3,0,none⟩) (T++[l]).length c3:=by
  rcases h3.2 with⟨_,e⟩ | ⟨g,c,cur,e,_⟩
  ·omega
  ·exact⟨g,c,by rw [e];simp⟩
 subst e3;have hOA:Memb.Own B (V1.alloc o) ro rc l:=own_lift (own_kept hO (World.grownBy_alloc V1 o none) (fun g e q=>by cases q)) hBW;have hO3:Memb.Own B V3 ro rc l:=own_kept hOA hg (rows_apart hOA sA.ll.row);have hS3:Memb.Own B V3 a c S:=own_kept sA.own hg (rows_apart sA.own sA.ll.row);have hE:∀i,i<T.length→Memb.Own B V3 (f i).1 (f i).2 (T.getD i []):=fun i hi=>own_kept (sA.ll.each i hi) hg (rows_apart (sA.ll.each i hi) sA.ll.row)
 have hB3:Below B W V3:=(hbA.mono hBW).grown hg (by have:=hbA.size;omega) hrow;have hold:∀{a':Option Addr} {c':Nat} {l':List Int},Memb.Own B W a' c' l'→∀g,a'=some ⟨g,0,none⟩→g<W.heap.size:=fun {a' c' l'} h g e=>by subst e;exact(World.ownsRow.lt h g rfl).2
 have hnew:∀g,ro=some ⟨g,0,none⟩→W.heap.size≤g:=fun g e=>by subst e;exact(World.ownsRow.lt hO g rfl).1
 refine⟨some ⟨g3,0,none⟩,c3,rfl,hS3,⟨?_,?_,?_⟩,?_,hB3⟩
 ·rw [vals_snoc f T l (ro,rc)];rw [List.length_append,List.length_singleton] at h3 ⊢;exact h3
 ·intro i hi;rw [List.length_append,List.length_singleton] at hi;unfold put;by_cases e:i=T.length
  ·subst e;rw [if_pos rfl,getD_last];exact hO3
  ·rw [if_neg e,getD_snoc _ _ i (by omega)];exact hE i (by omega)
 ·intro i j hij hj g e1 e2;rw [List.length_append,List.length_singleton] at hj;unfold put at e1 e2;rw [if_neg (by omega)] at e1;by_cases e:j=T.length
  ·rw [if_pos e] at e2;have:=hold (s.ll.each i (by omega)) g e1;have:=hnew g e2;omega
  ·rw [if_neg e] at e2;exact s.ll.ap i j hij (by omega) g e1 e2
 ·intro i hi g e1 e2;rw [List.length_append,List.length_singleton] at hi;unfold put at e1;by_cases e:i=T.length
  ·rw [if_pos e] at e1;have:=hold s.own g e2;have:=hnew g e1;omega
  ·rw [if_neg e] at e1;exact s.ap i (by omega) g e1 e2
end
theorem empty_ll(W:World):(W.alloc (.cells #[] 25)).ownsRow W.heap.size 25 1 (.slice (some ⟨W.heap.size,0,none⟩) 0 0) 0 []:=World.ownsRow_lit W #[] 0 (Nat.le_refl _) (by unfold maxLen;omega) rfl
theorem two_new(w:World)(o:Obj):w.heap.size+1<((w.alloc o).alloc (.cells #[.slice none 0 0,.slice none 0 0] 43)).heap.size∧((w.alloc o).alloc (.cells #[.slice none 0 0,.slice none 0 0] 43)).cell? ⟨w.heap.size+1,0,none⟩=some (.slice none 0 0)∧((w.alloc o).alloc (.cells #[.slice none 0 0,.slice none 0 0] 43)).cell? ⟨w.heap.size+1,1,none⟩=some (.slice none 0 0)∧(∀j,((w.alloc o).alloc (.cells #[.slice none 0 0,.slice none 0 0] 43)).frozen? ⟨w.heap.size+1,j,none⟩=(w.alloc o |>.alloc (.cells #[.slice none 0 0,.slice none 0 0] 43)).frozen? ⟨w.heap.size+1,j,none⟩)∧Below w.heap.size w ((w.alloc o).alloc (.cells #[.slice none 0 0,.slice none 0 0] 43)):=by
 have e:(w.alloc o).heap.size=w.heap.size+1:=by simp
 refine⟨by simp,?_,?_,fun j=>rfl,((Below.refl _ _).alloc (Nat.le_refl _) _).alloc (by simp) _⟩
 ·rw [← e];simp
 ·rw [← e];simp
theorem two_fr(w:World)(o:Obj):((w.alloc o).alloc (.cells #[.slice none 0 0,.slice none 0 0] 43)).frozen? ⟨w.heap.size+1,0,none⟩=false∧((w.alloc o).alloc (.cells #[.slice none 0 0,.slice none 0 0] 43)).frozen? ⟨w.heap.size+1,1,none⟩=false:=by
 have e:(w.alloc o).heap.size=w.heap.size+1:=by simp
 rw [← e];exact⟨by simp,by simp⟩
theorem put_keep{W:World}{p gb r:Nat}{a b x y u v:Value}(h1:gb≠r)(h2:p≠r)(h:W.cell? ⟨gb,0,none⟩=some a∧W.cell? ⟨gb,1,none⟩=some b∧W.cell? ⟨p,1,none⟩=some u∧W.cell? ⟨p,2,none⟩=some v) :
  ((W.setCell ⟨r,0,none⟩ x).setCell ⟨r,1,none⟩ y).cell? ⟨gb,0,none⟩=some a∧((W.setCell ⟨r,0,none⟩ x).setCell ⟨r,1,none⟩ y).cell? ⟨gb,1,none⟩=some b∧((W.setCell ⟨r,0,none⟩ x).setCell ⟨r,1,none⟩ y).cell? ⟨p,1,none⟩=some u∧((W.setCell ⟨r,0,none⟩ x).setCell ⟨r,1,none⟩ y).cell? ⟨p,2,none⟩=some v:=by
 have k:∀(b j:Nat),b≠r→((W.setCell ⟨r,0,none⟩ x).setCell ⟨r,1,none⟩ y).cell? ⟨b,j,none⟩=W.cell? ⟨b,j,none⟩:=fun b j hb=>World.cell?_of_block (a:=⟨b,j,none⟩) ((Below.heap_setCell _ ⟨r,1,none⟩ _ _ hb).trans (Below.heap_setCell _ ⟨r,0,none⟩ _ _ hb))
 exact⟨(k _ _ h1).trans h.1,(k _ _ h1).trans h.2.1,(k _ _ h2).trans h.2.2.1,(k _ _ h2).trans h.2.2.2⟩
theorem handed0(w:World):Calls Tryz.prog 226 #[.agg #[]] w (CopyPost [] [] w):=by
 have H2:=two_new w (.cells #[] 117);have H3:=two_fr w (.cells #[] 117);go_enter Tryz.func226,Tryz.ntmps226
 go_upto_region 1 with fail
 generalize (w.alloc (.cells #[] 117)).alloc (.cells #[.slice none 0 0,.slice none 0 0] 43)=V at H2 H3 ⊢;obtain⟨hlt,r0,r1,_,hb⟩:=H2;obtain⟨f0,f1⟩:=H3;have hb1:Below V.heap.size V (V.alloc (.cells #[] 2)):=(Below.refl _ _).alloc (Nat.le_refl _) _;have hb2:Below V.heap.size V ((V.alloc (.cells #[] 2)).alloc (.cells #[] 25)):=hb1.alloc (by simp) _;have s0:=(hb2.cell (p:=⟨w.heap.size+1,0,none⟩) hlt).trans r0;have s1:=(hb2.cell (p:=⟨w.heap.size+1,1,none⟩) hlt).trans r1;have g0:=(hb2.frozen (p:=⟨w.heap.size+1,0,none⟩) hlt).trans f0;have g1:=(hb2.frozen (p:=⟨w.heap.size+1,1,none⟩) hlt).trans f1;have hBW:=hb.trans (hb2.mono hb.size);have hown:Memb.Own V.heap.size ((V.alloc (.cells #[] 2)).alloc (.cells #[] 25)) (some ⟨V.heap.size,0,none⟩) 0 []:=own_kept (Memb.own_empty V) (World.grownBy_alloc _ _ none) (fun g e q=>by cases q);have hrow:=empty_ll (V.alloc (.cells #[] 2));have esz:(V.alloc (.cells #[] 2)).heap.size=V.heap.size+1:=by simp
 rw [esz] at hrow;obtain⟨k1,k2,k3,k4,k5⟩:=fin_put (x:=.slice (some ⟨V.heap.size,0,none⟩) 0 0) (y:=.slice (some ⟨V.heap.size+1,0,none⟩) 0 0) (Nat.le_succ w.heap.size) hBW s0 s1 g1;have hg:=grown_two ((V.alloc (.cells #[] 2)).alloc (.cells #[] 25)) (w.heap.size+1) (.slice (some ⟨V.heap.size,0,none⟩) 0 0) (.slice (some ⟨V.heap.size+1,0,none⟩) 0 0);have HF:Hid (_):=own_lift (row_kept hown hg hlt) hb.size;have HR:Hid (OwnLL w.heap.size _ (.slice (some ⟨V.heap.size+1,0,none⟩) ([]:List (List Int)).length 0) [] (fun _=>(none,0))):=⟨row_lift (B':=w.heap.size) (row_kept hrow hg (by omega)) (by have:=hb.size;omega),fun i hi=>by simp at hi,fun i j hij hj=>by simp at hj⟩
 have HK:Hid (_):=k5;clear hown hrow hg k5 hBW hb hb1 r0 r1 f0 f1;go_wp2_with fail
 refine bodyPost_ret (v:=.agg #[.slice (some ⟨V.heap.size,0,none⟩) 0 0,.slice (some ⟨V.heap.size+1,0,none⟩) 0 0]) (by simp [results,Tryz.f226,go_sem,k3,k4]) rfl ?_;exact⟨_,0,some ⟨V.heap.size+1,0,none⟩,0,fun _=>(none,0),rfl,HF.out,HR.out,fun i hi=>by simp at hi,HK.out⟩
theorem handedS{Bp:Nat}(t:TypeId)(x:Value)(fid:Nat)(hm:∀W:World,(Go.method 357 t x "loop.example/g00418/impl.handedOut").run Tryz.prog W=.ok (fid,x) W)(eg:∀(args:Array Value) (W:World),(callFunc fid args).run Tryz.prog W=.ok (.enter fid args) W)(s:Int)(ta:Option Addr)(tc:Nat)(tl:List Int)(S:List Int)(T:List (List Int))(w:World)(hta:Memb.Own Bp w ta tc tl)(htl:tl.length≤3660)(hS:S.length≤40)(hT:T.length≤40)(hcall:∀W,Below w.heap.size w W→Calls Tryz.prog fid #[x] W (CopyPost S T W)) :
   Calls Tryz.prog 229 #[.agg #[.iface t x,.int .i64 s,.slice ta tl.length tc]] w (CopyPost (S++[s]) (T++[tl]) w):=by
 obtain⟨i0,hi0,hz0,hz1,hz2⟩:=info_parts Memb.info2;obtain⟨j0,hj0,hy0,hy1,hy2⟩:=info_parts infoS;have H2:=two_new w (.cells #[.iface t x,.int .i64 s,.slice ta tl.length tc] 121);have H3:=two_fr w (.cells #[.iface t x,.int .i64 s,.slice ta tl.length tc] 121);have HP0:Hid (∀j v,(#[.iface t x,.int .i64 s,.slice ta tl.length tc]:Array Value)[j]? = some v→((w.alloc (.cells #[.iface t x,.int .i64 s,.slice ta tl.length tc] 121)).alloc (.cells #[.slice none 0 0,.slice none 0 0] 43)).cell? ⟨w.heap.size,j,none⟩=some v):=fun j v hj=>by
   rw [World.cell?_alloc_lt _ _ _ (by simp)];match j,hj with
   | 0,hj=>simp at hj;subst hj;simp
   | 1,hj=>simp at hj;subst hj;simp
   | 2,hj=>simp at hj;subst hj;simp
   | j+3,hj=>simp at hj
 have HTA:Hid (∀W,Below w.heap.size w W→Memb.Own Bp W ta tc tl):=fun W hW=>Lst.own_below hta hW
 have HCA:Hid (_):=hcall;clear hta hcall;go_enter Tryz.func229,Tryz.ntmps229
 go_upto_region 1 with fail
 generalize (w.alloc (.cells #[.iface t x,.int .i64 s,.slice ta tl.length tc] 121)).alloc (.cells #[.slice none 0 0,.slice none 0 0] 43)=V at H2 H3 HP0 ⊢;obtain⟨hlt,r0,r1,_,hb⟩:=H2;obtain⟨f0,f1⟩:=H3;have HBV:Hid (Below w.heap.size w V):=hb;have HLT:Hid (w.heap.size+1<V.heap.size):=hlt;have HPC:Hid (∀W,Below V.heap.size V W→W.cell? ⟨w.heap.size,1,none⟩=some (.int .i64 s)∧W.cell? ⟨w.heap.size,2,none⟩=some (.slice ta tl.length tc)):=fun W hW=>⟨(hW.cell (p:=⟨w.heap.size,1,none⟩) (show w.heap.size<V.heap.size by omega)).trans (HP0.out 1 _ rfl),(hW.cell (p:=⟨w.heap.size,2,none⟩) (show w.heap.size<V.heap.size by omega)).trans (HP0.out 2 _ rfl)⟩
 have HRC:Hid (∀W,Below V.heap.size V W→W.cell? ⟨w.heap.size+1,0,none⟩=some (.slice none 0 0)∧W.cell? ⟨w.heap.size+1,1,none⟩=some (.slice none 0 0)∧W.frozen? ⟨w.heap.size+1,0,none⟩=false∧W.frozen? ⟨w.heap.size+1,1,none⟩=false):=fun W hW=>⟨(hW.cell (p:=⟨w.heap.size+1,0,none⟩) hlt).trans r0,(hW.cell (p:=⟨w.heap.size+1,1,none⟩) hlt).trans r1,(hW.frozen (p:=⟨w.heap.size+1,0,none⟩) hlt).trans f0,(hW.frozen (p:=⟨w.heap.size+1,1,none⟩) hlt).trans f1⟩
 have a0:=HP0.out 0 _ rfl;have hcall:=HCA.out V HBV.out;clear hb hlt r0 r1 f0 f1 HP0 HCA;go_wp2_with fail
 refine hcall.mono ?_;rintro e w2 ⟨so,sc,vo,vc,f,rfl,hO,hL,hA,hb2⟩;have HX3:Hid (XSt (w2.alloc (.cells #[.slice so S.length sc,.slice vo T.length vc] 43)) V.heap.size w2.heap.size so sc S vo vc T f):=x_new hb2.size hO hL hA;have HB3:Hid (Below V.heap.size V (w2.alloc (.cells #[.slice so S.length sc,.slice vo T.length vc] 43))):=hb2.alloc hb2.size _;clear hcall hO hL hA hb2 a0;go_upto_region 2 with fail
 generalize w2.alloc (.cells #[.slice so S.length sc,.slice vo T.length vc] 43)=W3 at HX3 HB3 ⊢;have HGB:Hid (V.heap.size≤w2.heap.size):=HX3.out.bx;generalize w2.heap.size=gb at HX3 HGB ⊢;have HY3:Hid (YSt (.slice so S.length sc) W3.drew V.heap.size gb so sc S vo vc T f):=(⟨HX3.out.lt,HX3.out.ty,HX3.out.x0,HX3.out.x1,HX3.out.own,HX3.out.ll,HX3.out.ap⟩:YSt (.slice so S.length sc) W3 V.heap.size gb so sc S vo vc T f).below (Below.refl _ _).drew;have HBD:Hid (Below V.heap.size V W3.drew):=HB3.out.drew;have HROW:Hid ((W3.drew.alloc (.cells #[.int .i64 s] 2)).ownsRow V.heap.size 2 1 (.slice so S.length sc) S.length (S.map (Value.int .i64))):=World.ownsRow.alloc HY3.out.own _;have HNEW:Hid (∀(j:Nat) u,([.int .i64 s]:List Value)[j]? = some u→(W3.drew.alloc (.cells #[.int .i64 s] 2)).cell? ((⟨W3.drew.heap.size,0,none⟩:Addr).add j)=some u):=Sg.one_new W3.drew s _;have HSC:Hid (∀(X:World) (a:Option Addr) (c:Nat) (S':List Int),YSt (.slice so S.length sc) X V.heap.size gb a c S' vo vc T f→Below V.heap.size V X→X.cell? ⟨gb,0,none⟩=some (.slice so S.length sc)∧X.cell? ⟨gb,1,none⟩=some (.slice vo T.length vc)∧X.cell? ⟨w.heap.size,1,none⟩=some (.int .i64 s)∧X.cell? ⟨w.heap.size,2,none⟩=some (.slice ta tl.length tc)):=fun X a c S' hY hB=>⟨hY.x0,hY.x1,(HPC.out X hB).1,(HPC.out X hB).2⟩
 have S3:=HSC.out _ _ _ _ HY3.out HBD.out;have S3a:=HSC.out _ _ _ _ (HY3.out.below ((Below.refl _ _).alloc (Nat.le_refl _) (.cells #[.int .i64 s] 2))) (HBD.out.alloc HBD.out.size _);have HSZ:Hid (V.heap.size≤W3.heap.size∧V.heap.size≤W3.drew.heap.size∧V.heap.size≤(W3.drew.alloc (.cells #[.int .i64 s] 2)).heap.size):=⟨HB3.out.size,HBD.out.size,by have:=HBD.out.size;simp at this ⊢;omega⟩
 have HVL:Hid ((vals f T).length=T.length):=vals_len f T;generalize hS2:S++[s]=S2;have HS2:Hid (S++[s]=S2):=hS2;generalize hT2:T++[tl]=T2;have HT2:Hid (T++[tl]=T2):=hT2;have x0:=HX3.out.x0;have x1:=HX3.out.x1;obtain⟨p1,p2⟩:=HPC.out W3 HB3.out;clear hS2 hT2 HX3;go_region_held3 (fun X => X.cell? ⟨gb, 0, none⟩ = some (.slice so S.length sc) ∧ X.cell? ⟨gb, 1, none⟩ = some (.slice vo T.length vc) ∧ X.cell? ⟨w.heap.size, 1, none⟩ = some (.int .i64 s) ∧ X.cell? ⟨w.heap.size, 2, none⟩ = some (.slice ta tl.length tc)) (first | exact S7 | exact S6 | exact S5a | exact S5 | exact S4 | exact S3a | exact S3 | go_keep) (first
   | (refine step_own_at rfl (.tmp 8) (.tmp 11) 25 rfl V.heap.size 2 i0 (.int .i64 0) 1 8 Tryz.underlying25 hi0 hz0 hz1 hz2 rfl (by decide) (.slice so S.length sc) S.length (S.map (Value.int .i64)) (by simp [Act.eval]) HROW.out ⟨W3.drew.heap.size,0,none⟩ 1 1 [.int .i64 s] (by simp [Act.eval]) rfl HNEW.out (Sg.one_one s) (by unfold maxLen;omega) (by omega) HSZ.out.2.2 ?_
      intro v4 V4 h4 hg4 hat4;obtain⟨a4,c4,rfl,hY4,hB4⟩:=y_seen HY3.out HSZ.out.2.1 h4 hg4 hat4;have HY4:Hid (YSt (.slice so S.length sc) V4 V.heap.size gb a4 c4 (S++[s]) vo vc T f):=hY4;have HB4:Hid (Below V.heap.size V V4):=HBD.out.trans hB4;clear h4 hg4 hat4 hY4 hB4;rw [HS2.out] at HY4;rw [HS2.out];have S4:=HSC.out _ _ _ _ HY4.out HB4.out)
   | (refine step_own_at rfl (.tmp 14) (.tmp 18) 41 rfl V.heap.size 25 j0 (.slice none 0 0) 1 24 Tryz.underlying41 hj0 hy0 hy1 hy2 rfl (by decide) (.slice vo T.length vc) T.length (vals f T) (by simp [Act.eval]) (HR5.out) ⟨V5.heap.size,0,none⟩ 1 1 [.slice ro tl.length rc] (by simp [Act.eval]) rfl (one_newV V5 _ _) (one_sl _ _ _) (by unfold maxLen;omega) (by omega) HZ5.out ?_
      intro v6 V6 h6 hg6 _;have hnx6:(Value.slice vo T.length vc).ownBlock≠some gb:=ty_ne HY4.out.ll.row (by decide) HY4.out.ty;obtain⟨vo6,vc6,rfl,hO6,hL6,hA6,hB6⟩:=y_told HY4.out HB4.out.size HB5.out HO5.out h6 hg6;have HB6:Hid (Below V.heap.size V V6):=HB4.out.trans hB6;have hblk6:V6.heap[gb]? = (V5.alloc (.cells #[.slice ro tl.length rc] 25)).heap[gb]?:=hg6.block gb (by have:=HY4.out.lt;have:=HB5.out.size;simp;omega) (fun e=>hnx6 e.symm);obtain⟨q1,q2⟩:=HPC.out V6 HB6.out;have S6:V6.cell? ⟨gb,0,none⟩=some (.slice so S.length sc)∧V6.cell? ⟨gb,1,none⟩=some (.slice vo T.length vc)∧V6.cell? ⟨w.heap.size,1,none⟩=some (.int .i64 s)∧V6.cell? ⟨w.heap.size,2,none⟩=some (.slice ta tl.length tc):=⟨(World.cell?_of_block (a:=⟨gb,0,none⟩) hblk6).trans S5a.1,(World.cell?_of_block (a:=⟨gb,1,none⟩) hblk6).trans S5a.2.1,q1,q2⟩
      obtain⟨r0,r1,g0,g1⟩:=HRC.out V6 HB6.out;obtain⟨k1,k2,k3,k4,k5⟩:=fin_put (x:=.slice a4 S2.length c4) (y:=.slice vo6 T2.length vc6) (Nat.le_succ w.heap.size) (HBV.out.trans (HB6.out.mono HBV.out.size)) r0 r1 g1;have HK:Hid (_):=k5;have HK34:Hid (_):=And.intro k3 k4;clear k5 k3 k4;have S7:=put_keep (r:=w.heap.size+1) (x:=.slice a4 S2.length c4) (y:=.slice vo6 T2.length vc6) (by have:=HGB.out;have:=HLT.out;omega) (by omega) S6;have HF6:Hid (Memb.Own V.heap.size V6 a4 c4 S2∧OwnLL V.heap.size V6 (.slice vo6 (T++[tl]).length vc6) (T++[tl]) (put f T.length (ro,rc))∧(∀i,i<(T++[tl]).length→∀g,(put f T.length (ro,rc) i).1=some ⟨g,0,none⟩→a4≠some ⟨g,0,none⟩)):=⟨hO6,hL6,hA6⟩
      rw [HT2.out] at HF6;rw [HT2.out];clear h6 hg6 hO6 hL6 hA6 hB6 hnx6 hblk6 q1 q2)
   | (go_at_call 233
      refine(clone ta tc tl V4 (by omega) (HTA.out V4 (HBV.out.trans (HB4.out.mono HBV.out.size)))).mono ?_;rintro e V5 ⟨ro,rc,rfl,hO5,hb5⟩;have HO5:Hid (Memb.Own V4.heap.size V5 ro rc tl):=hO5;have HB5:Hid (Below V4.heap.size V4 V5):=hb5;have hY5:=HY4.out.below (hb5.alloc hb5.size (.cells #[.slice ro tl.length rc] 25));have HR5:Hid ((V5.alloc (.cells #[.slice ro tl.length rc] 25)).ownsRow V.heap.size 25 1 (.slice vo T.length vc) T.length (vals f T)):=hY5.ll.row;have HZ5:Hid (V.heap.size≤(V5.alloc (.cells #[.slice ro tl.length rc] 25)).heap.size):=Nat.le_trans HB4.out.size (Nat.le_trans hb5.size (by simp));have S5:=HSC.out _ _ _ _ (HY4.out.below hb5) (HB4.out.trans (hb5.mono HB4.out.size));have S5a:=HSC.out _ _ _ _ hY5 (HB4.out.trans ((hb5.alloc hb5.size _).mono HB4.out.size));clear hO5 hb5 hY5)
   | fail)
 all_goals
   have hgt:=grown_two V6 (w.heap.size+1) (.slice a4 S2.length c4) (.slice vo6 T2.length vc6);have HE:Hid (_):=own_lift (row_kept HF6.out.1 hgt HLT.out) HBV.out.size;have HE2:Hid (_):=ll_lift (ll_kept HF6.out.2.1 hgt HLT.out) HBV.out.size;obtain⟨k3,k4⟩:=HK34.out;clear hgt;go_wp2_with fail
   refine bodyPost_ret (v:=.agg #[.slice a4 S2.length c4,.slice vo6 T2.length vc6]) (by simp [results,Tryz.f229,go_sem,k3,k4]) rfl ?_;rw [HS2.out,HT2.out];exact⟨a4,c4,vo6,vc6,_,rfl,HE.out,HE2.out,HF6.out.2.2,HK.out⟩
theorem handedB{Bp:Nat}(s:Int)(ta:Option Addr)(tc:Nat)(tl:List Int)(S:List Int)(T:List (List Int))(w:World)(hta:Memb.Own Bp w ta tc tl)(htl:tl.length≤3660)(hS:S.length≤40)(hT:T.length≤40)(hcall:∀W,Below w.heap.size w W→Calls Tryz.prog 226 #[.agg #[]] W (CopyPost S T W)) :
  Calls Tryz.prog 229 #[.agg #[.iface 117 (.agg #[]),.int .i64 s,.slice ta tl.length tc]] w (CopyPost (S++[s]) (T++[tl]) w):=
 handedS _ _ _ (fun W=>by kernel_rfl) (enters_of Tryz.func226 (by kernel_rfl) rfl) s ta tc tl S T w hta htl hS hT hcall
theorem handedP{Bp:Nat}(x:Value)(s:Int)(ta:Option Addr)(tc:Nat)(tl:List Int)(S:List Int)(T:List (List Int))(w:World)(hta:Memb.Own Bp w ta tc tl)(htl:tl.length≤3660)(hS:S.length≤40)(hT:T.length≤40)(hcall:∀W,Below w.heap.size w W→Calls Tryz.prog 229 #[x] W (CopyPost S T W)) :
  Calls Tryz.prog 229 #[.agg #[.iface 121 x,.int .i64 s,.slice ta tl.length tc]] w (CopyPost (S++[s]) (T++[tl]) w):=
 handedS _ _ _ (fun W=>by kernel_rfl) (enters_of Tryz.func229 (by kernel_rfl) rfl) s ta tc tl S T w hta htl hS hT hcall
theorem take_succ{α:Type}(l:List α)(d:α)(n:Nat)(h:n<l.length):l.take (n+1)=l.take n++[l.getD n d]:=by
 rw [List.take_add_one];congr 1;simp [List.getD,List.getElem?_eq_getElem h]
theorem handed{B:Nat}(h:At)(S:List Int)(T:List (List Int)):∀(n:Nat) (W:World),n<S.length→n<T.length→n≤40→Pg B W (n+1) T h→Calls Tryz.prog 229 #[.agg #[recV h S T n,.int .i64 (S.getD n 0),.slice (h n).1 (T.getD n []).length (h n).2]] W (CopyPost (S.take (n+1)) (T.take (n+1)) W):=by
 intro n;induction n with
 | zero=>
  intro W hS hT _ p;rw [take_succ S 0 0 hS,take_succ T [] 0 hT];exact handedB (S.getD 0 0) (h 0).1 (h 0).2 (T.getD 0 []) [] [] W (p.each 0 (by omega)) (p.row 0 (by omega)) (by simp) (by simp) (fun V _=>handed0 V)
 | succ n ih=>
  intro W hS hT hn p;rw [take_succ S 0 (n+1) hS,take_succ T [] (n+1) hT,recV_succ];exact handedP _ (S.getD (n+1) 0) (h (n+1)).1 (h (n+1)).2 (T.getD (n+1) []) (S.take (n+1)) (T.take (n+1)) W (p.each (n+1) (by omega)) (p.row (n+1) (by omega)) (by simp;omega) (by simp;omega) (fun V hV=>ih V (by omega) (by omega) (by omega) ⟨fun j hj=>Lst.own_below (p.each j (by omega)) hV,fun j hj=>p.row j (by omega)⟩)
end Lo
end
section
open Go.RowKit Go.Shelf
attribute [local go_sem] Oper.semAt_some
namespace Lo
open Kn (K okK)
open Lc (at' RdK WordsOk laceB)
open Lg (At sameB stepB logB RdL put goesB seenL toldL LoggedPost CopyPost OwnLL fin_put grown_two own_lift row_kept ll_lift ll_kept)
open Sg (closedB NumsPost)
open Tl (outL beginsB)
theorem log_led{L:List K}{C S:List Int}{T:List (List Int)}(h:(laceB L&&Rm.coinsB C)=false):logB L C S T=false:=by
 unfold Lg.logB;rw [h];simp
theorem getD_snocI(S:List Int)(s:Int)(i:Nat)(hi:i<S.length):(S++[s]).getD i 0=S.getD i 0:=by
 simp [List.getD,List.getElem?_append_left hi]
theorem getD_lastI(S:List Int)(s:Int):(S++[s]).getD S.length 0=s:=by simp [List.getD]
theorem goes_go{L:List K}{C S:List Int}{T:List (List Int)}{s:Int}(h:logB L C S T=true):goesB L C S T s=goB L C S.length (lastS S S.length) (lastL T S.length) s:=by
 obtain⟨h40,hT,hl,hc,hst⟩:=Lg.log_parts h;have eT:(T++[outL L C s]).getD S.length []=outL L C s:=by rw [← hT];exact Lg.getD_last T _
 have old:∀i,i<S.length→stepB L C (S++[s]) (T++[outL L C s]) i=stepB L C S T i:=fun i hi=>by
  unfold Lg.stepB;rw [getD_snocI S s i hi,getD_snocI S s (i-1) (by omega),Lg.getD_snoc T _ i (by omega),Lg.getD_snoc T _ (i-1) (by omega)]
 have new:closedB L s=true→stepB L C (S++[s]) (T++[outL L C s]) S.length=(decide (bits .andNot .i64 (lastS S S.length) s=0)&&beginsB (outL L C s) (lastL T S.length)):=fun hcl=>by
  unfold Lg.stepB;rw [getD_lastI,eT,hcl,same_self];by_cases h0:S.length=0
  ·unfold lastS lastL;rw [if_pos h0,if_pos h0,andNot_nil,begins_nil,decide_eq_true h0];rfl
  ·unfold lastS lastL;rw [if_neg h0,if_neg h0,getD_snocI S s (S.length-1) (by omega),Lg.getD_snoc T _ (S.length-1) (by omega),decide_eq_false h0];simp
 rw [Bool.eq_iff_iff];constructor
 ·intro hg;unfold Lg.goesB at hg;simp only [Bool.and_eq_true] at hg;obtain⟨_,hcl,hlg⟩:=hg;obtain⟨k40,_,_,_,kst⟩:=Lg.log_parts hlg;have k:=kst S.length (by simp);rw [new hcl] at k;unfold goB;rw [hcl,k,decide_eq_true (by simp at k40;omega)];rfl
 ·intro hg;unfold goB at hg;rw [Bool.and_eq_true,Bool.and_eq_true] at hg;obtain⟨hn,hcl,hx⟩:=hg;have hn':=of_decide_eq_true hn;unfold Lg.goesB;rw [h,hcl,Bool.true_and,Bool.true_and];refine Lg.log_yes (by simp;omega) (by simp [hT]) hl hc (fun i hi=>?_);by_cases e:i<S.length
  ·rw [old i e];exact hst i e
  ·obtain rfl:i=S.length:=by simp at hi;omega
   rw [new hcl];exact hx
theorem rec_case(h:At)(S:List Int)(T:List (List Int)):(S.length=0∧recV h S T S.length=.iface 117 (.agg #[]))∨∃m,S.length=m+1∧recV h S T S.length=.iface 121 (.agg #[recV h S T m,.int .i64 (S.getD m 0),.slice (h m).1 (T.getD m []).length (h m).2]):=by
 rcases hn:S.length with _ | m
 ·exact .inl ⟨rfl,rfl⟩
 ·exact .inr ⟨m,rfl,rfl⟩
theorem handedMore{B B':Nat}(h:At)(S:List Int)(T:List (List Int))(s:Int)(ro:Option Addr)(rc:Nat)(tl:List Int)(W:World)(hT:T.length=S.length)(h40:S.length≤40)(p:Pg B W S.length T h)(hO:Memb.Own B' W ro rc tl)(htl:tl.length≤3660):Calls Tryz.prog 229 #[.agg #[recV h S T S.length,.int .i64 s,.slice ro tl.length rc]] W (CopyPost (S++[s]) (T++[tl]) W):=by
 rcases rec_case h S T with⟨h0,e⟩ | ⟨m,hm,e⟩
 · rw [e];obtain rfl:S=[]:=List.length_eq_zero_iff.1 h0;obtain rfl:T=[]:=List.length_eq_zero_iff.1 hT;exact handedB s ro rc tl [] [] W hO htl (by simp) (by simp) (fun V _=>handed0 V)
 · rw [e];exact handedP _ s ro rc tl S T W hO htl h40 (by omega) (fun V hV=>by
     have k:=handed h S T m V (by omega) (by omega) (by omega) ⟨fun j hj=>Lst.own_below (p.each j (by omega)) hV,fun j hj=>p.row j (by omega)⟩;rw [show S.take (m+1)=S from List.take_of_length_le (by omega),show T.take (m+1)=T from List.take_of_length_le (by omega)] at k;exact k)
theorem implLogOk(g off cap:Nat)(L:List K)(ao:Option Addr)(cc:Nat)(C:List Int)(so qo:Option Addr)(sc tc:Nat)(S:List Int)(T:List (List Int))(f:At)(w:World)(hlen:L.length≤1099511627776)(hw:WordsOk L)(hr:RdK w (some ⟨g,off,none⟩) L)(hl:C.length≤1048576)(hrd:Lst.Rd w ao C)(hao:∀c,ao=some ⟨c,0,none⟩→c<w.heap.size)(hlog:RdL w so qo S T f)(hS20:S.length≤1048576)(hT20:T.length≤1048576)(hsb:∀i,i<S.length→-9223372036854775808≤S.getD i 0∧S.getD i 0≤9223372036854775807) :
  Calls Tryz.prog 25 #[.slice (some ⟨g,off,none⟩) L.length cap,.slice ao C.length cc,.agg #[.slice so S.length sc,.slice qo T.length tc]] w fun e w'=>e=.returned (.bool (logB L C S T))∧Below w.heap.size w w':=by
 have hb0:Below w.heap.size w (w.alloc (.cells #[.slice so S.length sc,.slice qo T.length tc] 43) ):=(Below.refl _ _).alloc (Nat.le_refl _) _;have c0:(w.alloc (.cells #[.slice so S.length sc,.slice qo T.length tc] 43) ).cell? ⟨w.heap.size,0,none⟩=some (.slice so S.length sc):=by simp
 have c1:(w.alloc (.cells #[.slice so S.length sc,.slice qo T.length tc] 43) ).cell? ⟨w.heap.size,1,none⟩=some (.slice qo T.length tc):=by simp
 have hlt:w.heap.size<(w.alloc (.cells #[.slice so S.length sc,.slice qo T.length tc] 43) ).heap.size:=by simp
 generalize hv:w.alloc (.cells #[.slice so S.length sc,.slice qo T.length tc] 43)=V at hb0 c0 c1 hlt;have HV:Hid (w.alloc (.cells #[.slice so S.length sc,.slice qo T.length tc] 43)=V):=hv;have hled:=Fw.ledLace g off cap L ao cc C V hlen hw (hr.below hb0) hl (Ch.rd_below hrd hao hb0) (fun c e=>Nat.lt_of_lt_of_le (hao c e) hb0.size);have HLG:Hid (RdL V so qo S T f):=hlog.below hb0;have HB0:Hid (Below w.heap.size w V):=hb0;have HCC:Hid (∀W,Below V.heap.size V W→W.cell? ⟨w.heap.size,0,none⟩=some (.slice so S.length sc)∧W.cell? ⟨w.heap.size,1,none⟩=some (.slice qo T.length tc)):=fun W hW=>⟨(hW.cell (p:=⟨w.heap.size,0,none⟩) hlt).trans c0,(hW.cell (p:=⟨w.heap.size,1,none⟩) hlt).trans c1⟩
 have HSB:Hid (_):=hsb;clear hr hrd hao hw hlog hv hb0 c0 c1 hlt hsb;go_enter Tryz.func25,Tryz.ntmps25
 go_wp2_with fail
 rw [HV.out];clear HV;go_wp2_with fail
 refine hled.mono ?_;clear hled;rintro e w1 (⟨hlc,hc,g',rfl,hg',hrg,hb1⟩ | ⟨hn,v,y0,y1,y2,y3,y4,y5,y6,rfl,hb1⟩)
 ·have hB1:Below w1.heap.size w1 (w1.alloc (.cells #[.int .i64 (Ch.leadI C 0),.int .i64 (Ch.leadI C 1),.int .i64 (Ch.leadI C 2),.int .i64 (Ch.leadI C 3),.int .i64 (Ch.leadI C 4),.int .i64 (Ch.leadI C 5),.int .i64 (Ch.leadI C 6)] 58)):=(Below.refl _ _).alloc (Nat.le_refl _) _;have HB2:Hid (Below V.heap.size V (w1.alloc (.cells #[.int .i64 (Ch.leadI C 0),.int .i64 (Ch.leadI C 1),.int .i64 (Ch.leadI C 2),.int .i64 (Ch.leadI C 3),.int .i64 (Ch.leadI C 4),.int .i64 (Ch.leadI C 5),.int .i64 (Ch.leadI C 6)] 58))):=hb1.alloc hb1.size _;have HRW:Hid (Db.RowI (w1.alloc (.cells #[.int .i64 (Ch.leadI C 0),.int .i64 (Ch.leadI C 1),.int .i64 (Ch.leadI C 2),.int .i64 (Ch.leadI C 3),.int .i64 (Ch.leadI C 4),.int .i64 (Ch.leadI C 5),.int .i64 (Ch.leadI C 6)] 58)) w1.heap.size 7 (fun i=>Ch.leadI C (i:Int))):=Ch.rowI_seven w1 58 (fun i=>Ch.leadI C (i:Int));generalize hv2:w1.alloc (.cells #[.int .i64 (Ch.leadI C 0),.int .i64 (Ch.leadI C 1),.int .i64 (Ch.leadI C 2),.int .i64 (Ch.leadI C 3),.int .i64 (Ch.leadI C 4),.int .i64 (Ch.leadI C 5),.int .i64 (Ch.leadI C 6)] 58)=W2 at hB1 HB2 HRW;have HV2:Hid (w1.alloc (.cells #[.int .i64 (Ch.leadI C 0),.int .i64 (Ch.leadI C 1),.int .i64 (Ch.leadI C 2),.int .i64 (Ch.leadI C 3),.int .i64 (Ch.leadI C 4),.int .i64 (Ch.leadI C 5),.int .i64 (Ch.leadI C 6)] 58)=W2):=hv2;have hrc:=recordOf g' 0 L.length L C so qo sc tc S T f W2 hlc hc (Nat.lt_of_lt_of_le hg' hB1.size) (hrg.below hB1) (HLG.out.below HB2.out) hS20 hT20 HSB.out;obtain⟨c0,c1⟩:=HCC.out W2 HB2.out;have p0:=HRW.out.rd 0 (by omega);have p1:=HRW.out.rd 1 (by omega);have p2:=HRW.out.rd 2 (by omega);have p3:=HRW.out.rd 3 (by omega);have p4:=HRW.out.rd 4 (by omega);have p5:=HRW.out.rd 5 (by omega);have p6:=HRW.out.rd 6 (by omega);clear hv2 hlc hc hg' hrg hb1 hB1 HRW;go_upto_region 2 with fail
  rw [HV2.out];clear HV2;go_wp2_with fail
  refine hrc.mono ?_;rintro e w3 ⟨hpost,hb3⟩;have HB3:Hid (Below w.heap.size w w3):=HB0.out.trans ((HB2.out.trans (hb3.mono HB2.out.size)).mono HB0.out.size);clear hrc hb3 c0 c1 p0 p1 p2 p3 p4 p5 p6;rcases hpost with⟨hlo,h,rfl,_⟩ | ⟨hlo,v,rfl⟩
  ·have HT:Hid (logB L C S T=true):=hlo;clear hlo;generalize recV h S T S.length=rv;go_wp2;go_ret;exact⟨by rw [HT.out];rfl,HB3.out⟩
  ·have HT:Hid (logB L C S T=false):=hlo;clear hlo;go_wp2;go_ret;exact⟨by rw [HT.out];rfl,HB3.out⟩
 ·have HT:Hid (logB L C S T=false):=log_led hn;have HB2:Hid (Below w.heap.size w (w1.alloc (.cells #[.int .i64 y0,.int .i64 y1,.int .i64 y2,.int .i64 y3,.int .i64 y4,.int .i64 y5,.int .i64 y6] 58))):=HB0.out.trans ((hb1.alloc hb1.size _).mono HB0.out.size);clear hn hb1;go_wp2;go_ret;exact⟨by rw [HT.out];rfl,HB2.out⟩
theorem implLogged(g off cap:Nat)(L:List K)(ao:Option Addr)(cc:Nat)(C:List Int)(so qo:Option Addr)(sc tc:Nat)(S:List Int)(T:List (List Int))(f:At)(s:Int)(w:World)(hlen:L.length≤1099511627776)(hw:WordsOk L)(hr:RdK w (some ⟨g,off,none⟩) L)(hl:C.length≤1048576)(hrd:Lst.Rd w ao C)(hao:∀c,ao=some ⟨c,0,none⟩→c<w.heap.size)(hlog:RdL w so qo S T f)(hS20:S.length≤1048576)(hT20:T.length≤1048576)(hsb:∀i,i<S.length→-9223372036854775808≤S.getD i 0∧S.getD i 0≤9223372036854775807)(hs0:-9223372036854775808≤s)(hs1:s≤9223372036854775807) :
  Calls Tryz.prog 20 #[.slice (some ⟨g,off,none⟩) L.length cap,.slice ao C.length cc,.agg #[.slice so S.length sc,.slice qo T.length tc],.int .i64 s] w (LoggedPost L C S T s w):=by
 have H2:=two_new w (.cells #[.slice so S.length sc,.slice qo T.length tc] 43);have H3:=two_fr w (.cells #[.slice so S.length sc,.slice qo T.length tc] 43);have hc0:((w.alloc (.cells #[.slice so S.length sc,.slice qo T.length tc] 43) ).alloc (.cells #[.slice none 0 0,.slice none 0 0] 43)).cell? ⟨w.heap.size,0,none⟩=some (.slice so S.length sc):=by rw [World.cell?_alloc_lt _ _ _ (by simp)];simp
 have hc1:((w.alloc (.cells #[.slice so S.length sc,.slice qo T.length tc] 43) ).alloc (.cells #[.slice none 0 0,.slice none 0 0] 43)).cell? ⟨w.heap.size,1,none⟩=some (.slice qo T.length tc):=by rw [World.cell?_alloc_lt _ _ _ (by simp)];simp
 generalize hv:(w.alloc (.cells #[.slice so S.length sc,.slice qo T.length tc] 43) ).alloc (.cells #[.slice none 0 0,.slice none 0 0] 43)=V at H2 H3 hc0 hc1;have HV:Hid ((w.alloc (.cells #[.slice so S.length sc,.slice qo T.length tc] 43) ).alloc (.cells #[.slice none 0 0,.slice none 0 0] 43)=V):=hv;obtain⟨hlt,r0,r1,_,hb0⟩:=H2;obtain⟨f0,f1⟩:=H3;have hled:=Fw.ledLace g off cap L ao cc C V hlen hw (hr.below hb0) hl (Ch.rd_below hrd hao hb0) (fun c e=>Nat.lt_of_lt_of_le (hao c e) hb0.size);have HLG:Hid (RdL V so qo S T f):=hlog.below hb0;have HB0:Hid (Below w.heap.size w V):=hb0;have HCC:Hid (∀W,Below V.heap.size V W→W.cell? ⟨w.heap.size,0,none⟩=some (.slice so S.length sc)∧W.cell? ⟨w.heap.size,1,none⟩=some (.slice qo T.length tc)):=fun W hW=>⟨(hW.cell (p:=⟨w.heap.size,0,none⟩) (show w.heap.size<V.heap.size by omega)).trans hc0,(hW.cell (p:=⟨w.heap.size,1,none⟩) (show w.heap.size<V.heap.size by omega)).trans hc1⟩
 have HRC:Hid (∀W,Below V.heap.size V W→W.cell? ⟨w.heap.size+1,0,none⟩=some (.slice none 0 0)∧W.cell? ⟨w.heap.size+1,1,none⟩=some (.slice none 0 0)∧W.frozen? ⟨w.heap.size+1,0,none⟩=false∧W.frozen? ⟨w.heap.size+1,1,none⟩=false):=fun W hW=>⟨(hW.cell (p:=⟨w.heap.size+1,0,none⟩) hlt).trans r0,(hW.cell (p:=⟨w.heap.size+1,1,none⟩) hlt).trans r1,(hW.frozen (p:=⟨w.heap.size+1,0,none⟩) hlt).trans f0,(hW.frozen (p:=⟨w.heap.size+1,1,none⟩) hlt).trans f1⟩
 have HLT:Hid (w.heap.size+1<V.heap.size):=hlt;have HSB:Hid (_):=hsb;have HNIL:Hid (∀W,Below V.heap.size V W→logB L C S T=false→(W.setCell ⟨w.heap.size+1,0,none⟩ (.slice none 0 0)).cell? ⟨w.heap.size+1,1,none⟩=some (.slice none 0 0)∧(W.setCell ⟨w.heap.size+1,0,none⟩ (.slice none 0 0)).frozen? ⟨w.heap.size+1,1,none⟩=false∧((W.setCell ⟨w.heap.size+1,0,none⟩ (.slice none 0 0)).setCell ⟨w.heap.size+1,1,none⟩ (.slice none 0 0)).cell? ⟨w.heap.size+1,0,none⟩=some (.slice none 0 0)∧((W.setCell ⟨w.heap.size+1,0,none⟩ (.slice none 0 0)).setCell ⟨w.heap.size+1,1,none⟩ (.slice none 0 0)).cell? ⟨w.heap.size+1,1,none⟩=some (.slice none 0 0)∧LoggedPost L C S T s w (.returned (.tuple #[.agg #[.slice none 0 0,.slice none 0 0],.bool false])) ((W.setCell ⟨w.heap.size+1,0,none⟩ (.slice none 0 0)).setCell ⟨w.heap.size+1,1,none⟩ (.slice none 0 0))):=fun W hW hlo=>by
  obtain⟨q0,q1,q2,q3⟩:=HRC.out W hW;obtain⟨k1,k2,k3,k4,k5⟩:=fin_put (x:=.slice none 0 0) (y:=.slice none 0 0) (Nat.le_succ w.heap.size) (HB0.out.trans (hW.mono HB0.out.size)) q0 q1 q3;refine⟨k1,k2,k3,k4,?_⟩;unfold Lg.LoggedPost Lg.seenL Lg.toldL Lg.goesB;rw [hlo];exact⟨none,0,none,0,fun _=>(none,0),rfl,⟨rfl,.inl ⟨rfl,rfl⟩⟩,⟨⟨rfl,.inl ⟨rfl,rfl⟩⟩,fun i hi=>by simp at hi,fun i j hij hj=>by simp at hj⟩,fun i hi=>by simp at hi,k5⟩
 clear hr hrd hao hw hlog hv hb0 hc0 hc1 hlt hsb r0 r1 f0 f1;go_enter Tryz.func20,Tryz.ntmps20
 go_wp2_with fail
 rw [HV.out];clear HV;go_wp2_with fail
 refine hled.mono ?_;clear hled;rintro e w1 (⟨hlc,hc,g',rfl,hg',hrg,hb1⟩ | ⟨hn,v,y0,y1,y2,y3,y4,y5,y6,rfl,hb1⟩)
 ·have hB1:Below w1.heap.size w1 (w1.alloc (.cells #[.int .i64 (Ch.leadI C 0),.int .i64 (Ch.leadI C 1),.int .i64 (Ch.leadI C 2),.int .i64 (Ch.leadI C 3),.int .i64 (Ch.leadI C 4),.int .i64 (Ch.leadI C 5),.int .i64 (Ch.leadI C 6)] 58)):=(Below.refl _ _).alloc (Nat.le_refl _) _;have HB2:Hid (Below V.heap.size V (w1.alloc (.cells #[.int .i64 (Ch.leadI C 0),.int .i64 (Ch.leadI C 1),.int .i64 (Ch.leadI C 2),.int .i64 (Ch.leadI C 3),.int .i64 (Ch.leadI C 4),.int .i64 (Ch.leadI C 5),.int .i64 (Ch.leadI C 6)] 58))):=hb1.alloc hb1.size _;have HRW:Hid (Db.RowI (w1.alloc (.cells #[.int .i64 (Ch.leadI C 0),.int .i64 (Ch.leadI C 1),.int .i64 (Ch.leadI C 2),.int .i64 (Ch.leadI C 3),.int .i64 (Ch.leadI C 4),.int .i64 (Ch.leadI C 5),.int .i64 (Ch.leadI C 6)] 58)) w1.heap.size 7 (fun i=>Ch.leadI C (i:Int))):=Ch.rowI_seven w1 58 (fun i=>Ch.leadI C (i:Int));generalize hv2:w1.alloc (.cells #[.int .i64 (Ch.leadI C 0),.int .i64 (Ch.leadI C 1),.int .i64 (Ch.leadI C 2),.int .i64 (Ch.leadI C 3),.int .i64 (Ch.leadI C 4),.int .i64 (Ch.leadI C 5),.int .i64 (Ch.leadI C 6)] 58)=W2 at hB1 HB2 HRW;have HV2:Hid (w1.alloc (.cells #[.int .i64 (Ch.leadI C 0),.int .i64 (Ch.leadI C 1),.int .i64 (Ch.leadI C 2),.int .i64 (Ch.leadI C 3),.int .i64 (Ch.leadI C 4),.int .i64 (Ch.leadI C 5),.int .i64 (Ch.leadI C 6)] 58)=W2):=hv2;have hgW:=Nat.lt_of_lt_of_le hg' hB1.size;have hrW:=hrg.below hB1;have hrc:=recordOf g' 0 L.length L C so qo sc tc S T f W2 hlc hc hgW hrW (HLG.out.below HB2.out) hS20 hT20 HSB.out;have HLD:Hid (∀(W:World) (rv:Value) (n:Nat) (u:Int) (l:List Int),Below W2.heap.size W2 W→Rec W rv n u l→l.length≤1048576→Calls Tryz.prog 55 #[.slice (some ⟨g',0,none⟩) L.length L.length,.agg #[.int .i64 (Ch.leadI C 0),.int .i64 (Ch.leadI C 1),.int .i64 (Ch.leadI C 2),.int .i64 (Ch.leadI C 3),.int .i64 (Ch.leadI C 4),.int .i64 (Ch.leadI C 5),.int .i64 (Ch.leadI C 6)],rv,.int .i64 s] W (LoggedP L C rv n u l s W)):=fun W rv n u l hW h1 h2=>logged g' 0 L.length L C s rv n u l W hlc hc (Nat.lt_of_lt_of_le hgW hW.size) (hrW.below hW) hs0 hs1 h1 h2
  have HOL:Hid (closedB L s=true→(outL L C s).length≤3660):=fun hq=>Lg.out_len hq hc
  obtain⟨c0,c1⟩:=HCC.out W2 HB2.out;have p0:=HRW.out.rd 0 (by omega);have p1:=HRW.out.rd 1 (by omega);have p2:=HRW.out.rd 2 (by omega);have p3:=HRW.out.rd 3 (by omega);have p4:=HRW.out.rd 4 (by omega);have p5:=HRW.out.rd 5 (by omega);have p6:=HRW.out.rd 6 (by omega);clear hv2 hlc hc hg' hrg hb1 hB1 hgW hrW;go_upto_region 2 with fail
  rw [HV2.out];clear HV2;go_wp2_with fail
  refine hrc.mono ?_;rintro e w3 ⟨hpost,hb3⟩;have HB3:Hid (Below W2.heap.size W2 w3):=hb3;have HB3V:Hid (Below V.heap.size V w3):=HB2.out.trans (hb3.mono HB2.out.size);clear hrc hb3 c0 c1 p0 p1 p2 p3 p4 p5 p6;rcases hpost with⟨hlo,h,rfl,hpg⟩ | ⟨hlo,v,rfl⟩
  ·have HLO:Hid (logB L C S T=true):=hlo;obtain⟨h40,hTS,_,_,_⟩:=Lg.log_parts hlo;have HGG:Hid (_):=goes_go (s:=s) hlo;have HPG:Hid (Pg W2.heap.size w3 S.length T h):=hpg;have HTS:Hid (T.length=S.length):=hTS;have hld:=HLD.out w3 _ _ _ _ HB3.out (rec_of (S:=S) hpg (by omega)) (lastL_len hpg);have hR3:=Fw.rowI_kept HRW.out HB3.out;obtain⟨rv,hrv⟩:∃rv,recV h S T S.length=rv:=⟨_,rfl⟩
   have HRV:Hid (recV h S T S.length=rv):=hrv;rw [hrv] at hld ⊢;have p0:=hR3.rd 0 (by omega);have p1:=hR3.rd 1 (by omega);have p2:=hR3.rd 2 (by omega);have p3:=hR3.rd 3 (by omega);have p4:=hR3.rd 4 (by omega);have p5:=hR3.rd 5 (by omega);have p6:=hR3.rd 6 (by omega);clear hlo hpg hTS hR3 hrv HLD HRW;go_wp2_with fail
   refine hld.mono ?_;rintro e w4 ⟨hpost,hb4⟩;have HB4:Hid (Below V.heap.size V w4):=HB3V.out.trans (hb4.mono HB3V.out.size);have HPG4:Hid (Pg W2.heap.size w4 S.length T h):=HPG.out.below hb4;clear hld hb4 p0 p1 p2 p3 p4 p5 p6 HPG;rcases hpost with⟨hgo,ro,rc,rfl,hO⟩ | ⟨hgo,rfl⟩
   ·have HG:Hid (goesB L C S T s=true):=HGG.out.trans hgo;have hcl:closedB L s=true:=by
     unfold goB at hgo;simp only [Bool.and_eq_true] at hgo;exact hgo.2.1
    have hh:=handedMore h S T s ro rc (outL L C s) w4 HTS.out h40 HPG4.out hO (HOL.out hcl);have HSE:Hid (seenL L C S T s=S++[s]∧toldL L C S T s=T++[outL L C s]):=by
     show _∧_;unfold Lg.seenL Lg.toldL;rw [HLO.out,HG.out];exact⟨rfl,rfl⟩
    rw [HRV.out] at hh;generalize hoo:outL L C s=ol at hh HSE;clear hgo hO hcl HGG HOL hoo;go_wp2_with fail
    refine hh.mono ?_;rintro e w5 ⟨a5,c5,vo5,vc5,f5,rfl,hO5,hL5,hA5,hb5⟩;have HB5:Hid (Below V.heap.size V w5):=HB4.out.trans (hb5.mono HB4.out.size);obtain⟨r0,r1,f0,f1⟩:=HRC.out w5 HB5.out;obtain⟨k1,k2,k3,k4,k5⟩:=fin_put (x:=.slice a5 (S++[s]).length c5) (y:=.slice vo5 (T++[ol]).length vc5) (Nat.le_succ w.heap.size) (HB0.out.trans (HB5.out.mono HB0.out.size)) r0 r1 f1;have hgt:=grown_two w5 (w.heap.size+1) (.slice a5 (S++[s]).length c5) (.slice vo5 (T++[ol]).length vc5);have hlt4:w.heap.size+1<w4.heap.size:=Nat.lt_of_lt_of_le HLT.out HB4.out.size;have HE:Hid (LoggedPost L C S T s w (.returned (.tuple #[.agg #[.slice a5 (S++[s]).length c5,.slice vo5 (T++[ol]).length vc5],.bool true])) ((w5.setCell ⟨w.heap.size+1,0,none⟩ (.slice a5 (S++[s]).length c5)).setCell ⟨w.heap.size+1,1,none⟩ (.slice vo5 (T++[ol]).length vc5))):=by
     show LoggedPost _ _ _ _ _ _ _ _;unfold Lg.LoggedPost;rw [HSE.out.1,HSE.out.2,HG.out];exact⟨a5,c5,vo5,vc5,f5,rfl,own_lift (row_kept hO5 hgt hlt4) (by omega),ll_lift (ll_kept hL5 hgt hlt4) (by omega),hA5,k5⟩
    clear hh hO5 hL5 hA5 hb5 k5 hgt hlt4;generalize (S++[s]).length=n5 at k1 k2 k3 k4 HE ⊢;generalize (T++[ol]).length=m5 at k1 k2 k3 k4 HE ⊢;go_wp2;refine bodyPost_ret (v:=.tuple #[.agg #[.slice a5 n5 c5,.slice vo5 m5 vc5],.bool true]) (by simp [results,Tryz.f20,go_sem,k3,k4]) rfl ?_;exact HE.out
   ·have HG:Hid (goesB L C S T s=false):=HGG.out.trans hgo;have HSE:Hid (seenL L C S T s=S∧toldL L C S T s=T):=by
     show _∧_;unfold Lg.seenL Lg.toldL;rw [HLO.out,HG.out];exact⟨rfl,rfl⟩
    clear hgo HGG HOL;rcases rec_case h S T with⟨h0,e⟩ | ⟨m,hm,e⟩
    ·obtain rfl:rv=.iface 117 (.agg #[]):=by rw [← HRV.out,e]
     have hh:Calls Tryz.prog 226 #[.agg #[]] w4 (CopyPost S T w4):=by
      have e1:S=[]:=List.length_eq_zero_iff.1 h0;have e2:T=[]:=List.length_eq_zero_iff.1 (by have:=HTS.out;omega);rw [e1,e2];exact handed0 w4
     clear e h0 HRV;go_wp2_with fail
     refine hh.mono ?_;rintro e w5 ⟨a5,c5,vo5,vc5,f5,rfl,hO5,hL5,hA5,hb5⟩;have HB5:Hid (Below V.heap.size V w5):=HB4.out.trans (hb5.mono HB4.out.size);obtain⟨r0,r1,f0,f1⟩:=HRC.out w5 HB5.out;obtain⟨k1,k2,k3,k4,k5⟩:=fin_put (x:=.slice a5 S.length c5) (y:=.slice vo5 T.length vc5) (Nat.le_succ w.heap.size) (HB0.out.trans (HB5.out.mono HB0.out.size)) r0 r1 f1;have hgt:=grown_two w5 (w.heap.size+1) (.slice a5 S.length c5) (.slice vo5 T.length vc5);have hlt4:w.heap.size+1<w4.heap.size:=Nat.lt_of_lt_of_le HLT.out HB4.out.size;have HE:Hid (LoggedPost L C S T s w (.returned (.tuple #[.agg #[.slice a5 S.length c5,.slice vo5 T.length vc5],.bool false])) ((w5.setCell ⟨w.heap.size+1,0,none⟩ (.slice a5 S.length c5)).setCell ⟨w.heap.size+1,1,none⟩ (.slice vo5 T.length vc5))):=by
      show LoggedPost _ _ _ _ _ _ _ _;unfold Lg.LoggedPost;rw [HSE.out.1,HSE.out.2,HG.out];exact⟨a5,c5,vo5,vc5,f5,rfl,own_lift (row_kept hO5 hgt hlt4) (by omega),ll_lift (ll_kept hL5 hgt hlt4) (by omega),hA5,k5⟩
     clear hh hO5 hL5 hA5 hb5 k5 hgt hlt4;generalize S.length=n5 at k1 k2 k3 k4 HE ⊢;generalize T.length=m5 at k1 k2 k3 k4 HE ⊢;go_wp2;refine bodyPost_ret (v:=.tuple #[.agg #[.slice a5 n5 c5,.slice vo5 m5 vc5],.bool false]) (by simp [results,Tryz.f20,go_sem,k3,k4]) rfl ?_;exact HE.out
    ·obtain rfl:rv=.iface 121 (.agg #[recV h S T m,.int .i64 (S.getD m 0),.slice (h m).1 (T.getD m []).length (h m).2]):=by rw [← HRV.out,e]
     have hh:Calls Tryz.prog 229 #[.agg #[recV h S T m,.int .i64 (S.getD m 0),.slice (h m).1 (T.getD m []).length (h m).2]] w4 (CopyPost S T w4):=by
      have k:=handed h S T m w4 (by omega) (by have:=HTS.out;omega) (by omega) ⟨fun j hj=>HPG4.out.each j (by omega),fun j hj=>HPG4.out.row j (by omega)⟩;rw [show S.take (m+1)=S from List.take_of_length_le (by omega),show T.take (m+1)=T from List.take_of_length_le (by have:=HTS.out;omega)] at k;exact k
     clear e hm HRV;generalize recV h S T m=rv2 at hh ⊢;generalize S.getD m 0=sm at hh ⊢;generalize (T.getD m []).length=tm at hh ⊢;generalize (h m).1=hm1 at hh ⊢;generalize (h m).2=hm2 at hh ⊢;go_wp2_with fail
     refine hh.mono ?_;rintro e w5 ⟨a5,c5,vo5,vc5,f5,rfl,hO5,hL5,hA5,hb5⟩;have HB5:Hid (Below V.heap.size V w5):=HB4.out.trans (hb5.mono HB4.out.size);obtain⟨r0,r1,f0,f1⟩:=HRC.out w5 HB5.out;obtain⟨k1,k2,k3,k4,k5⟩:=fin_put (x:=.slice a5 S.length c5) (y:=.slice vo5 T.length vc5) (Nat.le_succ w.heap.size) (HB0.out.trans (HB5.out.mono HB0.out.size)) r0 r1 f1;have hgt:=grown_two w5 (w.heap.size+1) (.slice a5 S.length c5) (.slice vo5 T.length vc5);have hlt4:w.heap.size+1<w4.heap.size:=Nat.lt_of_lt_of_le HLT.out HB4.out.size;have HE:Hid (LoggedPost L C S T s w (.returned (.tuple #[.agg #[.slice a5 S.length c5,.slice vo5 T.length vc5],.bool false])) ((w5.setCell ⟨w.heap.size+1,0,none⟩ (.slice a5 S.length c5)).setCell ⟨w.heap.size+1,1,none⟩ (.slice vo5 T.length vc5))):=by
      show LoggedPost _ _ _ _ _ _ _ _;unfold Lg.LoggedPost;rw [HSE.out.1,HSE.out.2,HG.out];exact⟨a5,c5,vo5,vc5,f5,rfl,own_lift (row_kept hO5 hgt hlt4) (by omega),ll_lift (ll_kept hL5 hgt hlt4) (by omega),hA5,k5⟩
     clear hh hO5 hL5 hA5 hb5 k5 hgt hlt4;generalize S.length=n5 at k1 k2 k3 k4 HE ⊢;generalize T.length=m5 at k1 k2 k3 k4 HE ⊢;go_wp2;refine bodyPost_ret (v:=.tuple #[.agg #[.slice a5 n5 c5,.slice vo5 m5 vc5],.bool false]) (by simp [results,Tryz.f20,go_sem,k3,k4]) rfl ?_;exact HE.out
  ·obtain⟨r0,r1,f0,f1⟩:=HRC.out w3 HB3V.out;obtain⟨k1,k2,k3,k4,k5⟩:=HNIL.out w3 HB3V.out hlo;have HP:Hid (_):=k5;clear hlo k5;go_wp2;refine bodyPost_ret (v:=.tuple #[.agg #[.slice none 0 0,.slice none 0 0],.bool false]) (by simp [results,Tryz.f20,go_sem,k3,k4]) rfl ?_;exact HP.out
 ·have hB2:Below V.heap.size V (w1.alloc (.cells #[.int .i64 y0,.int .i64 y1,.int .i64 y2,.int .i64 y3,.int .i64 y4,.int .i64 y5,.int .i64 y6] 58)):=hb1.alloc hb1.size _;obtain⟨r0,r1,f0,f1⟩:=HRC.out _ hB2;obtain⟨k1,k2,k3,k4,k5⟩:=HNIL.out _ hB2 (log_led hn);have HP:Hid (_):=k5;clear hn hb1 hB2 k5;go_upto_region 2 with fail
  generalize w1.alloc (.cells #[.int .i64 y0,.int .i64 y1,.int .i64 y2,.int .i64 y3,.int .i64 y4,.int .i64 y5,.int .i64 y6] 58)=W2 at r0 r1 f0 f1 k1 k2 k3 k4 HP ⊢;go_wp2;refine bodyPost_ret (v:=.tuple #[.agg #[.slice none 0 0,.slice none 0 0],.bool false]) (by simp [results,Tryz.f20,go_sem,k3,k4]) rfl ?_;exact HP.out
end Lo
end
end Go.Proofs.YtbkeldfbllhlbaaGreat
