/-
 Rows of entries in memory, known cell for cell: what is appended, copied and cleared in them, whatever the slice types' names.
-/
import Derived.Test.Ytadbafppodhfpaaezg0
import Derived.Laws.CopyOwn
import Derived.Maps.AppendAt
import Derived.Deep.AppendSrc
import Derived.Lib.AppendZerosOnto
import Derived.Lib.Overlaps
set_option linter.unusedVariables false
set_option maxRecDepth 100000
set_option maxHeartbeats 6400000
namespace Go.Proofs.Ytadbafppodhfpaa
open Go.RowKit
section
namespace Bk
open De (D okD keyB)
def DoPost(base g:Nat)(M:List En × Int)(w:World)(e:Ending)(w':World):Prop:=∃g' c',e=.returned (.tuple #[.slice (some ⟨g',0,none⟩) M.1.length c',.int .i64 M.2])∧OwE base w' g' c' M.1∧w.grownBy w' (some g)
theorem grown_of_below{w w':World}(h:Below w.heap.size w w')(r:Option Nat):w.grownBy w' r:=⟨h.os,h.tape,h.output,h.size,fun j hj _=>h.block j hj⟩
theorem grown_trans{a b c:World}{r:Option Nat}(h:a.grownBy b r)(k:b.grownBy c r):a.grownBy c r:=⟨k.os.trans h.os,k.tape.trans h.tape,k.output.trans h.output,Nat.le_trans h.size k.size,fun i hi hne=>(k.block i (Nat.lt_of_lt_of_le hi h.size) hne).trans (h.block i hi hne)⟩
theorem grown_set{w V:World}{g:Nat}(h:w.grownBy V (some g))(j:Nat)(u:Value):w.grownBy (V.setCell ⟨g,j,none⟩ u) (some g) where
 os:=h.os
 tape:=h.tape
 output:=h.output
 size:=by simpa using h.size
 block:=fun i hi hne=>(heap_setCell_other V ⟨g,j,none⟩ i u (fun e=>hne (by rw [e]))).trans (h.block i hi hne)
theorem grown_drew{a b:World}{r:Option Nat}(h:a.grownBy b r):a.grownBy b.drew r:=⟨h.os,h.tape,h.output,h.size,h.block⟩
theorem ret_len{n n' g c:Nat}{k:Int}(h:n=n'):Ending.returned (.tuple #[.slice (some ⟨g,0,none⟩) n c,.int .i64 k])=.returned (.tuple #[.slice (some ⟨g,0,none⟩) n' c,.int .i64 k]):=by rw [h]
theorem cell_alloc_old{W:World}{a:Addr}{u:Value}{o:Obj}(h:W.cell? a=some u):(W.alloc o).cell? a=some u:=(World.cell?_alloc_lt _ _ a (block_lt_of_cell h)).trans h
theorem news_grown{U V:World}{b g0:Nat}{l:List Value}(hg:U.grownBy V (some g0))(h:∀(j:Nat) u,l[j]? = some u→U.cell? ((⟨b,0,none⟩:Addr).add j)=some u)(hne:b≠g0):∀(j:Nat) u,l[j]? = some u→V.cell? ((⟨b,0,none⟩:Addr).add j)=some u:=by
 intro j u hj;have:=h j u hj;rw [WideShapes.add_plain] at this ⊢;exact Draw.kept_cell hg hne this
theorem l17Do(g cap:Nat)(L:List En)(d:D)(base:Nat)(w:World)(hb:base≤w.heap.size)(h:OwE base w g cap L)(hl:L.length≤100)(hv:∀e∈L,-100000≤e.val∧e.val≤100000)(hd:-100000≤d.val∧d.val≤100000) :
   Calls Try.prog 35 #[.slice (some ⟨g,0,none⟩) L.length cap,.agg #[.int .i64 d.kind,.string d.key,.int .i64 d.val,.int .i64 d.new]] w (DoPost base g (doB L d) w):=by
 obtain⟨kind,key,val,new⟩:=d;dsimp only at hd ⊢;have HD:Hid (doB L ⟨kind,key,val,new⟩=doC L (findN L key) (hasB L key) kind key val new):=rfl;generalize doB L ⟨kind,key,val,new⟩=R at HD ⊢;have P0:Hid (_):=De.box4 w (.int .i64 kind) (.string key) (.int .i64 val) (.int .i64 new) 26;have HO:Hid (OwE base (w.alloc (.cells #[.int .i64 kind,.string key,.int .i64 val,.int .i64 new] 26)) g cap L):=h.alloc _;go_enter Try.func35,Try.ntmps35
 go_upto_region 1 with fail
 generalize w.alloc (.cells #[.int .i64 kind,.string key,.int .i64 val,.int .i64 new] 26)=W0 at P0 HO ⊢;obtain⟨B0,x0,x1,x2,x3,hlt⟩:=P0;go_wp2_with fail
 refine(l17Find (some ⟨g,0,none⟩) cap L key W0 (by omega) HO.out.rd).mono ?_;rintro e W1 ⟨rfl,b1⟩;have y0:=(b1.cell (p:=⟨w.heap.size,0,none⟩) hlt).trans x0;have y1:=(b1.cell (p:=⟨w.heap.size,1,none⟩) hlt).trans x1;have y2:=(b1.cell (p:=⟨w.heap.size,2,none⟩) hlt).trans x2;have y3:=(b1.cell (p:=⟨w.heap.size,3,none⟩) hlt).trans x3;have HO1:Hid (OwE base W1 g cap L):=HO.out.below b1;have HB1:Hid (Below w.heap.size w W1):=B0.trans (b1.mono B0.size);have HL:Hid (w.heap.size<W1.heap.size):=Nat.lt_of_lt_of_le hlt b1.size;have HG:Hid (w.grownBy W1 (some g)):=grown_of_below HB1.out _;clear x0 x1 x2 x3 b1 B0 HO hlt h;have hn:=findN_le L key;have HA:Hid (hasB L key=true→findN L key<L.length):=fun q=>by unfold hasB at q;simp at q;exact q.1
 generalize findN L key=n at *;generalize hasB L key=is at *;have hsh:=HO1.out.shape;by_cases k1:kind=1
 · subst k1
   cases is
   · by_cases h8:L.length=8
     · have h8':((L.length:Int) == 8)=true:=by simp;omega
       have HR:Hid (R=(L,3)):=by show _=_;rw [HD.out];unfold doC;simp [h8]
       go_wp2;go_ret2
       rw [HR.out];rw [← h8];exact⟨g,cap,rfl,HO1.out,HG.out⟩
     · have h8':((L.length:Int) == 8)=false:=by simp;omega
       have HR:Hid (R=(L.take n++[⟨key,val⟩]++L.drop n,0)):=by show _=_;rw [HD.out];unfold doC;simp [h8]
       clear HD HA;obtain⟨hc1,hc2,hc3,hc4⟩:=hsh;have hnI:(n:Int)≤(L.length:Int):=by omega
       have hnc:n≤cap:=by omega
       obtain⟨Aa,hAa,hrd⟩:=HO1.out.rd.drop n hn hc1;rw [Nat.zero_add] at hAa;have HRD:Hid (RdE W1 (some Aa) (L.drop n)):=hrd;clear hrd;go_upto_region 8 with fail
       go_wp2_with (at_builtin;refine list_E rfl _ _ rfl W1.heap.size W1.heap.size 0 [] (L.drop n) rfl (owE_new W1) Aa (L.length-n) (cap-n) (by simp) (by simp [Act.eval]) ?_ (by simp;omega) (by simp) ?_)
       · exact rdE_news' (HRD.out.below ((Below.refl _ _).alloc (Nat.le_refl _) _))
       intro gr cr W2 hor hgr;have hb2:Below W1.heap.size W1 W2:=((Below.refl _ W1).alloc (Nat.le_refl _) _).grown hgr (by simp) (fun j hj=>by simp at hj;omega);have HR2:Hid (OwE W1.heap.size W2 gr cr (L.drop n)):=hor;have HO2:Hid (OwE base W2 g cap L):=HO1.out.below hb2;have HG2:Hid (w.grownBy W2 (some g)):=grown_trans HG.out (grown_of_below hb2 _);replace y1:=(hb2.cell (p:=⟨w.heap.size,1,none⟩) HL.out).trans y1;replace y2:=(hb2.cell (p:=⟨w.heap.size,2,none⟩) HL.out).trans y2;clear hor hgr hb2 HRD HO1 HG HB1 y0 y3 hAa;go_upto_region 9 with fail
       have HT2:Hid (∀V,Below W2.heap.size W2 V→RdE V (some ⟨g,0,none⟩) (L.take n)):=fun V hV=>(HO2.out.rd.take n).below hV
       have HR3:Hid (∀V,Below W2.heap.size W2 V→RdE V (some ⟨gr,0,none⟩) (L.drop n)):=fun V hV=>HR2.out.rd.below hV
       have HBA:Hid (∀V o,Below W2.heap.size W2 V→Below W2.heap.size W2 (V.alloc o)):=fun V o hV=>hV.alloc hV.size o
       have HY:Hid (∀V,Below W2.heap.size W2 V→V.cell? ⟨w.heap.size,1,none⟩=some (.string key)∧V.cell? ⟨w.heap.size,2,none⟩=some (.int .i64 val)):=fun V hV=>⟨(hV.cell (p:=⟨w.heap.size,1,none⟩) (block_lt_of_cell y1)).trans y1,(hV.cell (p:=⟨w.heap.size,2,none⟩) (block_lt_of_cell y2)).trans y2⟩
       clear HR2 HO2;have hmin:min n L.length=n:=by omega
       have HWC:Hid (OwE W2.heap.size ((W2.alloc (.cells #[.string key,.int .i64 val] 38)).alloc (.cells #[] 38)) (W2.heap.size+1) 0 []):=by
         have:=OwE.mono (owE_new (W2.alloc (.cells #[.string key,.int .i64 val] 38))) (b:=W2.heap.size) (by simp);have e:(W2.alloc (.cells #[.string key,.int .i64 val] 38)).heap.size=W2.heap.size+1:=by simp
         rw [e] at this;exact this
       have HOB:Hid (∀(j:Nat) u,(flatE [⟨key,val⟩])[j]? = some u→((W2.alloc (.cells #[] 38)).alloc (.cells #[.string key,.int .i64 val] 38)).cell? ((⟨W2.heap.size+1,0,none⟩:Addr).add j)=some u):=by
         have:=one_cells (W2.alloc (.cells #[] 38)) ⟨key,val⟩ 38;intro j u hj;have:=this j u hj;simpa using this
       have HOC:Hid (∀(j:Nat) u,(flatE [⟨key,val⟩])[j]? = some u→((W2.alloc (.cells #[.string key,.int .i64 val] 38)).alloc (.cells #[] 38)).cell? ((⟨W2.heap.size,0,none⟩:Addr).add j)=some u):=fun j u hj=>cell_alloc_old (one_cells W2 ⟨key,val⟩ 38 j u hj)
       have q1:∀o,(W2.alloc o).cell? ⟨w.heap.size,1,none⟩=some (.string key):=fun o=>(HY.out _ (HBA.out W2 o (Below.refl _ _))).1
       have q2:∀o,(W2.alloc o).cell? ⟨w.heap.size,2,none⟩=some (.int .i64 val):=fun o=>(HY.out _ (HBA.out W2 o (Below.refl _ _))).2
       go_region_law (first
         | (refine step_E rfl (.tmp 36) (.tmp 39) rfl W2.heap.size W2.heap.size 0 [] (L.take n) (by first | rfl | simp [Act.eval,Act.put]) (owE_new W2) ⟨g,0,none⟩ n cap (by simp;omega) (by first | rfl | simp [Act.eval,Act.put]) (rdE_news (HT2.out _ (HBA.out W2 _ (Below.refl _ _)).drew)) (by simp;omega) (by first | (simp;done) | (simp;omega)) ?_
            intro g1 c1 W3 ho1 hg1;have hb3:Below W2.heap.size W2 W3:=(HBA.out W2 _ (Below.refl _ _)).drew.grown hg1 (by first | (simp;done) | (simp;omega)) (fun j hj=>by simp at hj;omega);rw [List.nil_append] at ho1 ⊢;obtain⟨z1,z2⟩:=HY.out _ hb3;clear hg1)
         | (refine step_E rfl (.tmp 36) (.tmp 39) rfl W2.heap.size W2.heap.size 0 [] (L.take n) (by first | rfl | simp [Act.eval,Act.put]) ((owE_new W2).alloc _) ⟨g,0,none⟩ n cap (by simp;omega) (by first | rfl | simp [Act.eval,Act.put]) (rdE_news (HT2.out _ (HBA.out _ _ (HBA.out W2 _ (Below.refl _ _))).drew)) (by simp;omega) (by first | (simp;done) | (simp;omega)) ?_
            intro g1 c1 W3 ho1 hg1;have hb3:Below W2.heap.size W2 W3:=(HBA.out _ _ (HBA.out W2 _ (Below.refl _ _))).drew.grown hg1 (by first | (simp;done) | (simp;omega)) (fun j hj=>by simp at hj;omega);have hce:=news_grown hg1 HOB.out (by simp);rw [List.nil_append] at ho1 ⊢;obtain⟨z1,z2⟩:=HY.out _ hb3;clear hg1)
         | (refine step_E rfl (.tmp 36) (.tmp 39) rfl W2.heap.size (W2.heap.size+1) 0 [] (L.take n) (by first | rfl | simp [Act.eval,Act.put]) HWC.out ⟨g,0,none⟩ n cap (by simp;omega) (by first | rfl | simp [Act.eval,Act.put]) (rdE_news (HT2.out _ (HBA.out _ _ (HBA.out W2 _ (Below.refl _ _))).drew)) (by simp;omega) (by first | (simp;done) | (simp;omega)) ?_
            intro g1 c1 W3 ho1 hg1;have hb3:Below W2.heap.size W2 W3:=(HBA.out _ _ (HBA.out W2 _ (Below.refl _ _))).drew.grown hg1 (by first | (simp;done) | (simp;omega)) (fun j hj=>by simp at hj;omega);have hce:=news_grown hg1 HOC.out (by simp);rw [List.nil_append] at ho1 ⊢;obtain⟨z1,z2⟩:=HY.out _ hb3;clear hg1)
         | (refine step_E rfl (.tmp 40) (.tmp 46) rfl W2.heap.size g1 c1 (L.take n) [⟨key,val⟩] (by first | rfl | simp [Act.eval,hmin] | simp [Act.eval,Act.put,hmin]) (ho1.alloc _) ⟨W3.heap.size,0,none⟩ 1 1 rfl (by first | rfl | simp [Act.eval,Act.put]) (one_cells W3 ⟨key,val⟩ _) (by simp;omega) (by have:=hb3.size;simp;omega) ?_
            intro g2 c2 W4 ho2 hg2;have hb4:Below W2.heap.size W2 W4:=(HBA.out W3 _ hb3).grown hg2 (by have:=hb3.size;simp;omega) (fun j hj=>by have:=ho1.shape.2.2.1;simp at hj;omega);clear hg2)
         | (refine step_E rfl (.tmp 40) (.tmp 46) rfl W2.heap.size g1 c1 (L.take n) [⟨key,val⟩] (by first | rfl | simp [Act.eval,hmin] | simp [Act.eval,Act.put,hmin]) ho1 _ 1 1 rfl (by rfl) hce (by simp;omega) hb3.size ?_
            intro g2 c2 W4 ho2 hg2;have hb4:Below W2.heap.size W2 W4:=hb3.grown hg2 hb3.size (fun j hj=>by have:=ho1.shape.2.2.1;simp at hj;omega);clear hg2)
         | (refine step_E rfl (.tmp 47) (.tmp 48) rfl W2.heap.size g2 c2 (L.take n++[⟨key,val⟩]) (L.drop n) (by first | rfl | simp [Act.eval,hmin] | simp [Act.eval,Act.put,hmin]) ho2 ⟨gr,0,none⟩ (L.length-n) cr (by simp) (by first | rfl | simp [Act.eval,Act.put]) (rdE_news (HR3.out _ hb4)) (by simp;omega) hb4.size ?_
            intro g3 c3 W5 ho3 hg3;have hb5:Below W2.heap.size W2 W5:=hb4.grown hg3 hb4.size (fun j hj=>by have:=ho2.shape.2.2.1;simp at hj;omega);clear hg3))
       all_goals
         have HF:Hid (OwE base W5 g3 c3 (L.take n++[⟨key,val⟩]++L.drop n)∧w.grownBy W5 (some g)):=⟨ho3.mono (by have:=HG2.out.size;omega),grown_trans HG2.out (grown_of_below hb5 _)⟩
         clear ho1 ho2 ho3 hb3 hb4 hb5 HOB HOC HWC HY HBA HT2 HR3 q1 q2;go_wp2;go_ret2
         rw [HR.out];exact⟨g3,c3,ret_len (by simp <;> omega),HF.out.1,HF.out.2⟩
   · have hnl:=HA.out rfl;obtain⟨_,hc⟩:=HO1.out.rd.on n hnl;obtain⟨c0,c1⟩:=hc;rw [Nat.zero_add] at c0 c1;have ff:=HO1.out.frozen (n*2+1);have HR:Hid (R=(L.set n ⟨(atE L n).key,val⟩,0)):=by show _=_;rw [HD.out];unfold doC;simp
     have HP:Hid (OwE base (W1.setCell ⟨g,n*2+1,none⟩ (.int .i64 val)) g cap (L.set n ⟨(atE L n).key,val⟩)):=HO1.out.put n hnl val;have HG2:Hid (w.grownBy (W1.setCell ⟨g,n*2+1,none⟩ (.int .i64 val)) (some g)):=grown_set HG.out _ _;clear HD HA;go_wp2;go_ret2
     rw [HR.out];exact⟨g,cap,ret_len (by simp),HP.out,HG2.out⟩
 · have kb1:(kind == 1)=false:=by simpa using k1
   cases is
   · have HR:Hid (R=(L,1)):=by show _=_;rw [HD.out];unfold doC;simp [k1]
     clear HD HA;go_wp2;go_ret2
     rw [HR.out];exact⟨g,cap,rfl,HO1.out,HG.out⟩
   · have hnl:=HA.out rfl;obtain⟨_,hc⟩:=HO1.out.rd.on n hnl;obtain⟨c0,c1⟩:=hc;rw [Nat.zero_add] at c0 c1;have ff:=HO1.out.frozen (n*2+1);obtain⟨hv0,hv1⟩:=hv _ (atE_mem L n hnl);have HPS:Hid (∀x:Int,OwE base (W1.setCell ⟨g,n*2+1,none⟩ (.int .i64 x)) g cap (L.set n ⟨(atE L n).key,x⟩)∧w.grownBy (W1.setCell ⟨g,n*2+1,none⟩ (.int .i64 x)) (some g)):=fun x=>⟨HO1.out.put n hnl x,grown_set HG.out _ _⟩
     by_cases k2:kind=2
     · subst k2;have HR:Hid (R=(L.take n++L.drop (n+1),0)):=by show _=_;rw [HD.out];unfold doC;simp
       clear HD HA HPS c0 c1 ff;obtain⟨hc1,hc2,hc3,hc4⟩:=hsh;have hnI:(n:Int)≤(L.length:Int):=by omega
       have hnc:n≤cap:=by omega
       have hn1:(n:Int)+1≤(L.length:Int):=by omega
       have hn0:(0:Int)≤(n:Int)+1:=by omega
       have e1:((n:Int)+1).toNat=n+1:=by omega
       have hwr:IntKind.i64.wrap ((n:Int)+1)=(n:Int)+1:=by rw [IntKind.wrap_i64];omega
       have hmin:min n L.length=n:=by omega
       obtain⟨Aa,hAa,hrd⟩:=HO1.out.rd.drop (n+1) hnl hc1;rw [Nat.zero_add] at hAa;have HR3:Hid (∀V,Below W1.heap.size W1 V→RdE V (some Aa) (L.drop (n+1))):=fun V hV=>hrd.below hV
       have HT2:Hid (∀V,Below W1.heap.size W1 V→RdE V (some ⟨g,0,none⟩) (L.take n)):=fun V hV=>(HO1.out.rd.take n).below hV
       have HBA:Hid (∀V o,Below W1.heap.size W1 V→Below W1.heap.size W1 (V.alloc o)):=fun V o hV=>hV.alloc hV.size o
       clear hrd HO1;go_upto_region 14 with fail
       go_region_law (first
         | (refine step_E rfl (.tmp 57) (.tmp 60) rfl W1.heap.size W1.heap.size 0 [] (L.take n) (by first | rfl | simp [Act.eval,Act.put]) (owE_new W1) ⟨g,0,none⟩ n cap (by simp;omega) (by first | rfl | simp [Act.eval,Act.put]) (rdE_news (HT2.out _ (HBA.out W1 _ (Below.refl _ _)).drew)) (by simp;omega) (by first | (simp;done) | (simp;omega)) ?_
            intro g1 c1 W3 ho1 hg1;have hb3:Below W1.heap.size W1 W3:=(HBA.out W1 _ (Below.refl _ _)).drew.grown hg1 (by first | (simp;done) | (simp;omega)) (fun j hj=>by simp at hj;omega);rw [List.nil_append] at ho1 ⊢;clear hg1)
         | (refine step_E rfl (.tmp 61) (.tmp 65) rfl W1.heap.size g1 c1 (L.take n) (L.drop (n+1)) (by first | rfl | simp [Act.eval,hmin] | simp [Act.eval,Act.put,hmin]) ho1 Aa (L.length-(n+1)) (cap-(n+1)) (by simp) (by first | rfl | simp [Act.eval,Act.put,hAa]) (rdE_news' (HR3.out _ hb3)) (by simp;omega) hb3.size ?_
            intro g3 c3 W5 ho3 hg3;have hb5:Below W1.heap.size W1 W5:=hb3.grown hg3 hb3.size (fun j hj=>by have:=ho1.shape.2.2.1;simp at hj;omega);clear hg3))
       all_goals
         have HF:Hid (OwE base W5 g3 c3 (L.take n++L.drop (n+1))∧w.grownBy W5 (some g)):=⟨ho3.mono (by have:=HG.out.size;omega),grown_trans HG.out (grown_of_below hb5 _)⟩
         clear ho1 ho3 hb3 hb5 HBA HT2 HR3;go_wp2;go_ret2
         rw [HR.out];exact⟨g3,c3,ret_len (by simp <;> omega),HF.out.1,HF.out.2⟩
     · have kb2:(kind == 2)=false:=by simpa using k2
       by_cases k3:kind=3
       · subst k3;by_cases h9:(atE L n).val+val > 9999
         · have HR:Hid (R=(L,3)):=by show _=_;rw [HD.out];unfold doC;simp [h9]
           have h9':9999<(atE L n).val+val:=h9;have HOD:Hid (OwE base W1 g cap L):=HO1.out;clear HD HA HPS;generalize (atE L n).val=vn at *;go_wp2_with fail
           go_region
           go_wp2;go_ret2
           rw [HR.out];exact⟨g,cap,rfl,HOD.out,grown_drew HG.out⟩
         · have HR:Hid (R=(L.set n ⟨(atE L n).key,(atE L n).val+val⟩,0)):=by show _=_;rw [HD.out];unfold doC;simp [h9]
           have h9':¬ 9999<(atE L n).val+val:=h9;have HPX:Hid (_):=HPS.out ((atE L n).val+val);clear HD HA HPS h9;generalize (atE L n).key=kn at *;generalize (atE L n).val=vn at *;go_wp2_with fail
           go_region
           go_wp2_with fail
           go_region
           go_wp2;go_ret2
           rw [HR.out];exact⟨g,cap,ret_len (by simp),HPX.out.1,by first | exact grown_drew HPX.out.2 | exact grown_drew (grown_drew HPX.out.2)⟩
       · have kb3:(kind == 3)=false:=by simpa using k3
         by_cases h9:(atE L n).val=val
         · have HR:Hid (R=(L.set n ⟨(atE L n).key,new⟩,0)):=by show _=_;rw [HD.out];unfold doC;simp [h9,k1,k2,k3]
           have h9':((atE L n).val != val)=false:=by simp [h9]
           have HPX:Hid (_):=HPS.out new;clear HD HA HPS h9;generalize (atE L n).key=kn at *;generalize (atE L n).val=vn at *;go_wp2_with fail
           go_region
           go_wp2;go_ret2
           rw [HR.out];exact⟨g,cap,ret_len (by simp),HPX.out.1,by first | exact grown_drew HPX.out.2 | exact grown_drew (grown_drew HPX.out.2)⟩
         · have HR:Hid (R=(L,2)):=by show _=_;rw [HD.out];unfold doC;simp [h9,k1,k2,k3]
           have h9':((atE L n).val != val)=true:=by simpa using h9
           have HOD:Hid (OwE base W1 g cap L):=HO1.out;clear HD HA HPS h9;generalize (atE L n).val=vn at *;go_wp2_with fail
           go_region
           go_wp2;go_ret2
           rw [HR.out];exact⟨g,cap,rfl,HOD.out,grown_drew HG.out⟩
end Bk
namespace Bk
open De (D okD keyB)
theorem step_N{ops:Array Oper}{o:Oper}{a:Act}{w:World}{K:Act→World→Prop}{Q:Exit→Act→World→Prop}{E:Prop}
  (hg:o.guard=none) (s x:Operand) (hop:o.op=Op.call { callee:=Callee.builtin Builtin.append,args:=#[s,x],argTypes:=#[24,24] })
  (B g c:Nat) (A:List En) (hs:a.eval s=.slice (some ⟨g,0,none⟩) A.length c) (hown:OwE B w g c A) (hx:a.eval x=.slice none 0 0)
  (hK:K (a.put o.dst (.slice (some ⟨g,0,none⟩) A.length c)) w):if Region.wanted o (yielded ops a.tmps)=true then Oper.wp Try.prog o a w K Q else E:=by
 obtain⟨i0,hi,hz0,hz1,hz2⟩:=info_parts infoE;have hr:=run_append_owned_none (P:=Try.prog) (w:=w) B 24 o.type 38 i0 2 Try.underlying24 hi _ _ _ hown;rw [if_pos (by simp [Region.wanted,hg])];unfold Oper.wp;simp [hop,hs,hx,hr,execOp,resolve,invoke,builtin,Result.andThen];exact hK
def DonePost(M:List En × Int)(w:World)(e:Ending)(w':World):Prop:=∃g' c',e=.returned (.tuple #[.slice (some ⟨g',0,none⟩) M.1.length c',.int .i64 M.2])∧OwE w.heap.size w' g' c' M.1∧Below w.heap.size w w'
theorem okBook_parts{L:List En}(h:okBook L=true):L.length≤8∧∀i,i<L.length→keyB (atE L i).key=true∧0≤(atE L i).val∧(atE L i).val≤9999:=by
 unfold okBook okTo at h;rw [Bool.and_eq_true,decide_eq_true_eq,List.all_eq_true] at h;refine⟨h.2,fun i hi=>?_⟩;have:=h.1 i (by simpa using hi);unfold stepB at this;simp only [Bool.and_eq_true,decide_eq_true_eq] at this;exact⟨this.1.1,this.1.2⟩
theorem okBook_vals{L:List En}(h:okBook L=true):∀e∈L,-100000≤e.val∧e.val≤100000:=by
 intro e he;obtain⟨i,hi,rfl⟩:=List.getElem_of_mem he;have:=(okBook_parts h).2 i hi;rw [atE_get L i hi] at this;omega
theorem specDone(ao:Option Addr)(cap:Nat)(L:List En)(d:D)(w:World)(hl:L.length≤1048600)(hk:∀e∈L,e.key.size≤1099511627776)(hr:RdE w ao L)(hcap:ao=none→cap=0)(hdk:d.key.size≤1099511627776) :
   Calls Try.prog 12 #[.slice ao L.length cap,.agg #[.int .i64 d.kind,.string d.key,.int .i64 d.val,.int .i64 d.new]] w (DonePost (doneB L d) w):=by
 have HD:Hid (doneB L d=if okBook L&&okD d then doB L d else ([],4)):=rfl;have HDO:Hid (okD d=true→0≤d.val∧d.val≤99):=fun h=>by
   have o:=(De.okD_iff d).1 h;exact⟨o.v0,o.v1⟩
 have HOK:Hid (∀W:World,Calls Try.prog 34 #[.agg #[.int .i64 d.kind,.string d.key,.int .i64 d.val,.int .i64 d.new]] W fun e w'=>e=.returned (.bool (okD d))∧Below W.heap.size W w'):=fun W=>De.specDeedOk d.kind d.key d.val d.new W hdk
 have P0:Hid (_):=De.box4 w (.int .i64 d.kind) (.string d.key) (.int .i64 d.val) (.int .i64 d.new) 26;generalize doneB L d=R at HD ⊢;go_enter Try.func12,Try.ntmps12
 go_upto_region 1 with fail
 generalize w.alloc (.cells #[.int .i64 d.kind,.string d.key,.int .i64 d.val,.int .i64 d.new] 26)=W0 at P0 ⊢;obtain⟨B0,x0,x1,x2,x3,hlt⟩:=P0;go_wp2_with fail
 refine(specBookOk ao cap L W0 hl hk (hr.below (B0))).mono ?_;rintro e W1 ⟨rfl,b1⟩;have HB1:Hid (Below w.heap.size w W1):=B0.trans (b1.mono B0.size);have y0:=(b1.cell (p:=⟨w.heap.size,0,none⟩) hlt).trans x0;have y1:=(b1.cell (p:=⟨w.heap.size,1,none⟩) hlt).trans x1;have y2:=(b1.cell (p:=⟨w.heap.size,2,none⟩) hlt).trans x2;have y3:=(b1.cell (p:=⟨w.heap.size,3,none⟩) hlt).trans x3;have hlt1:w.heap.size<W1.heap.size:=Nat.lt_of_lt_of_le hlt b1.size;clear x0 x1 x2 x3 b1 B0 hlt
 cases hbk:okBook L
 · have HR:Hid (R=([],4)):=by show _=_;rw [HD.out,hbk];rfl
   have HN:Hid (OwE w.heap.size (W1.alloc (.cells #[] 38)) W1.heap.size 0 []):=(owE_new W1).mono HB1.out.size;have HBN:Hid (Below w.heap.size w (W1.alloc (.cells #[] 38))):=HB1.out.alloc HB1.out.size _;clear HD HOK hbk HDO;go_wp2;go_ret2
   rw [HR.out];exact⟨W1.heap.size,0,rfl,HN.out,HBN.out⟩
 · have hvl:=okBook_vals hbk;have h8:=(okBook_parts hbk).1;go_wp2_with fail
   refine(HOK.out W1).mono ?_;rintro e W2 ⟨rfl,b2⟩;have HB2:Hid (Below w.heap.size w W2):=HB1.out.trans (b2.mono HB1.out.size);have z0:=(b2.cell (p:=⟨w.heap.size,0,none⟩) hlt1).trans y0;have z1:=(b2.cell (p:=⟨w.heap.size,1,none⟩) hlt1).trans y1;have z2:=(b2.cell (p:=⟨w.heap.size,2,none⟩) hlt1).trans y2;have z3:=(b2.cell (p:=⟨w.heap.size,3,none⟩) hlt1).trans y3;have hlt2:w.heap.size<W2.heap.size:=Nat.lt_of_lt_of_le hlt1 b2.size;clear y0 y1 y2 y3 b2 HB1 HOK
   cases hok:okD d
   · have HR:Hid (R=([],4)):=by show _=_;rw [HD.out,hbk,hok];rfl
     have HN:Hid (OwE w.heap.size (W2.alloc (.cells #[] 38)) W2.heap.size 0 []):=(owE_new W2).mono HB2.out.size;have HBN:Hid (Below w.heap.size w (W2.alloc (.cells #[] 38))):=HB2.out.alloc HB2.out.size _;clear HD hbk HDO hok;go_wp2;go_ret2
     rw [HR.out];exact⟨W2.heap.size,0,rfl,HN.out,HBN.out⟩
   · have HR:Hid (R=doB L d):=by show _=_;rw [HD.out,hbk,hok];rfl
     obtain⟨dv0,dv1⟩:=HDO.out hok;have HY:Hid (∀V,Below W2.heap.size W2 V→V.cell? ⟨w.heap.size,0,none⟩=some (.int .i64 d.kind)∧V.cell? ⟨w.heap.size,1,none⟩=some (.string d.key)∧V.cell? ⟨w.heap.size,2,none⟩=some (.int .i64 d.val)∧V.cell? ⟨w.heap.size,3,none⟩=some (.int .i64 d.new)):=fun V hV=>
       ⟨(hV.cell (p:=⟨w.heap.size,0,none⟩) hlt2).trans z0,(hV.cell (p:=⟨w.heap.size,1,none⟩) hlt2).trans z1,(hV.cell (p:=⟨w.heap.size,2,none⟩) hlt2).trans z2,(hV.cell (p:=⟨w.heap.size,3,none⟩) hlt2).trans z3⟩
     have HRL:Hid (∀V,Below W2.heap.size W2 V→RdE V ao L):=fun V hV=>(hr.below HB2.out).below hV
     have HBA:Hid (∀V o,Below W2.heap.size W2 V→Below W2.heap.size W2 (V.alloc o)):=fun V o hV=>hV.alloc hV.size o
     have q0:∀o,(W2.alloc o).cell? ⟨w.heap.size,0,none⟩=some (.int .i64 d.kind):=fun o=>(HY.out _ (HBA.out W2 o (Below.refl _ _))).1
     have q1:∀o,(W2.alloc o).cell? ⟨w.heap.size,1,none⟩=some (.string d.key):=fun o=>(HY.out _ (HBA.out W2 o (Below.refl _ _))).2.1
     have q2:∀o,(W2.alloc o).cell? ⟨w.heap.size,2,none⟩=some (.int .i64 d.val):=fun o=>(HY.out _ (HBA.out W2 o (Below.refl _ _))).2.2.1
     have q3:∀o,(W2.alloc o).cell? ⟨w.heap.size,3,none⟩=some (.int .i64 d.new):=fun o=>(HY.out _ (HBA.out W2 o (Below.refl _ _))).2.2.2
     have HDO2:Hid (∀(V:World) (g c:Nat),W2.heap.size≤V.heap.size→OwE W2.heap.size V g c L→Calls Try.prog 35 #[.slice (some ⟨g,0,none⟩) L.length c,.agg #[.int .i64 d.kind,.string d.key,.int .i64 d.val,.int .i64 d.new]] V (DoPost W2.heap.size g (doB L d) V)):=fun V g c hV ho=>l17Do g c L d W2.heap.size V hV ho (by omega) hvl (by omega)
     have HFI:Hid (∀(V V':World) (g:Nat),Below W2.heap.size W2 V→W2.heap.size≤g→V.grownBy V' (some g)→Below w.heap.size w V'):=fun V V' g hV hg hgr=>HB2.out.trans ((hV.grown hgr hV.size (fun j hj=>by simp at hj;omega)).mono HB2.out.size)
     have hsz2:=HB2.out.size;clear HD HDO hok hbk hr hk HB2 hvl;generalize doB L d=M at *;obtain rfl:=HR.out;clear HR
     cases ao with
     | none=>
       obtain rfl:L=[]:=by
         rcases HRL.out W2 (Below.refl _ _) with h | ⟨_,_,h,_⟩
         · exact h
         · cases h
       obtain rfl:=hcap rfl;have hon:=owE_new W2;have hbn:Below W2.heap.size W2 (W2.alloc (.cells #[] 38)).drew:=(HBA.out W2 _ (Below.refl _ _)).drew;go_upto_region 3 with fail
       go_region_law (first
         | (refine step_N rfl (.tmp 15) (.tmp 16) rfl W2.heap.size W2.heap.size 0 [] (by first | rfl | simp [Act.eval,Act.put]) hon (by first | rfl | simp [Act.eval,Act.put]) ?_)
         | (rw [if_pos (by simp [Region.wanted])]
            go_simp
            refine(HDO2.out (W2.alloc (.cells #[] 38)).drew W2.heap.size 0 hbn.size hon).mono ?_;rintro e W4 ⟨g4,c4,rfl,ho4,hg4⟩;have HF:Hid (OwE w.heap.size W4 g4 c4 R.1∧Below w.heap.size w W4):=⟨ho4.mono hsz2,HFI.out _ W4 W2.heap.size hbn (Nat.le_refl _) hg4⟩
            clear ho4 hg4))
       all_goals
         clear hon hbn q0 q1 q2 q3 HY HRL HBA HDO2 HFI;go_wp2;go_ret2
         exact⟨g4,c4,rfl,HF.out.1,HF.out.2⟩
     | some ad=>
       clear hcap;go_upto_region 3 with fail
       go_region_law (first
         | (refine step_E rfl (.tmp 15) (.tmp 16) rfl W2.heap.size W2.heap.size 0 [] L (by first | rfl | simp [Act.eval,Act.put]) (owE_new W2) ad L.length cap rfl (by first | rfl | simp [Act.eval,Act.put]) (rdE_news' (HRL.out _ (HBA.out W2 _ (Below.refl _ _)).drew)) (by simp;omega) (by first | (simp;done) | (simp;omega)) ?_
            intro g1 c1 W3 ho1 hg1;have hb3:Below W2.heap.size W2 W3:=(HBA.out W2 _ (Below.refl _ _)).drew.grown hg1 (by first | (simp;done) | (simp;omega)) (fun j hj=>by simp at hj;omega);rw [List.nil_append] at ho1 ⊢;obtain⟨z0,z1,z2,z3⟩:=HY.out _ hb3;clear hg1)
         | (rw [if_pos (by simp [Region.wanted])]
            go_simp
            refine(HDO2.out W3 g1 c1 hb3.size ho1).mono ?_;rintro e W4 ⟨g4,c4,rfl,ho4,hg4⟩;have HF:Hid (OwE w.heap.size W4 g4 c4 R.1∧Below w.heap.size w W4):=⟨ho4.mono hsz2,HFI.out W3 W4 g1 hb3 ho1.shape.2.2.1 hg4⟩
            clear ho4 hg4))
       all_goals
         clear ho1 hb3 z0 z1 z2 z3 q0 q1 q2 q3 HY HRL HBA HDO2 HFI;go_wp2;go_ret2
         exact⟨g4,c4,rfl,HF.out.1,HF.out.2⟩
end Bk
namespace Bk
open De (D okD keyB)
open Kn (B)
def EnOk(e:En):Prop:=keyB e.key=true∧0≤e.val∧e.val≤9999
def Rises(L:List En):Prop:=(L.map En.key).Pairwise (fun a b=>lt a b=true)
theorem pair_of_steps(l:List ByteArray)(h:∀i (hi:i+1<l.length),lt l[i] l[i+1]=true):l.Pairwise (fun a b=>lt a b=true):=by
 induction l with
 | nil=>exact .nil
 | cons a l ih=>
  have ih:=ih (fun i hi=>by have:=h (i+1) (by simpa using hi);simpa using this);refine .cons (fun b hb=>?_) ih
  cases l with
  | nil=>simp at hb
  | cons c l=>
   have h0:lt a c=true:=h 0 (by simp);rcases List.mem_cons.1 hb with rfl | hb
   ·exact h0
   ·exact lt_trans h0 ((List.pairwise_cons.1 ih).1 b hb)
theorem step_lt{a b:ByteArray}:(!(lt b a || same b a))=true↔lt a b=true:=by
 constructor
 ·intro h;simp only [Bool.not_eq_true',Bool.or_eq_false_iff] at h;rcases lt_tri a b with q | q | q
  ·exact q
  ·have:=(same_iff b a).2 q.symm;rw [h.2] at this;exact Bool.noConfusion this
  ·rw [h.1] at q;exact Bool.noConfusion q
 ·intro h;simp only [Bool.not_eq_true',Bool.or_eq_false_iff];refine⟨lt_anti h,?_⟩
  cases q:same b a
  ·rfl
  ·rw [(same_iff b a).1 q,lt_irr] at h;exact Bool.noConfusion h
theorem okBook_iff(L:List En):okBook L=true↔L.length≤8∧(∀e∈L,EnOk e)∧Rises L:=by
 unfold okBook okTo;rw [Bool.and_eq_true,decide_eq_true_eq,List.all_eq_true];have key:∀i,i<L.length→(stepB L i=true↔EnOk (atE L i)∧(0<i→lt (atE L (i-1)).key (atE L i).key=true)):=by
  intro i hi;unfold stepB EnOk;simp only [Bool.and_eq_true,decide_eq_true_eq];rw [Bool.or_eq_true,step_lt,decide_eq_true_eq];constructor
  ·rintro⟨a,b⟩;exact⟨a,fun h=>by rcases b with b | b;omega;exact b⟩
  ·rintro⟨a,b⟩;exact⟨a,by by_cases h:i=0;exact .inl h;exact .inr (b (by omega))⟩
 constructor
 ·rintro⟨h,h8⟩;have h':∀i,i<L.length→EnOk (atE L i)∧(0<i→lt (atE L (i-1)).key (atE L i).key=true):=fun i hi=>(key i hi).1 (h i (by simpa using hi))
  refine⟨h8,fun e he=>?_,pair_of_steps _ (fun i hi=>?_)⟩
  ·obtain⟨i,hi,rfl⟩:=List.getElem_of_mem he;have:=(h' i hi).1;rwa [atE_get L i hi] at this
  ·simp only [List.length_map] at hi;have:=(h' (i+1) hi).2 (by omega);rw [atE_get L (i+1) hi,Nat.add_sub_cancel,atE_get L i (by omega)] at this;simpa using this
 ·rintro⟨h8,he,hr⟩;refine⟨fun i hi=>?_,h8⟩;have hi':i<L.length:=by simpa using hi
  refine(key i hi').2 ⟨he _ (atE_mem L i hi'),fun h0=>?_⟩;rw [atE_get L i hi',atE_get L (i-1) (by omega)];have:=(List.pairwise_iff_getElem.1 hr) (i-1) i (by simp;omega) (by simpa using hi') (by omega);simpa using this
theorem map_set(L:List En)(n:Nat)(hn:n<L.length)(x:Int):(L.set n ⟨(atE L n).key,x⟩).map En.key=L.map En.key:=by
 rw [List.map_set,atE_get L n hn];apply List.ext_getElem?;intro i;by_cases h:i=n
 ·subst h;simp [hn]
 ·simp [Ne.symm h]
theorem mem_set{L:List En}{n:Nat}{e f:En}(h:f∈L.set n e):f=e∨f∈L:=by
 rcases List.mem_or_eq_of_mem_set h with h | h
 ·exact .inr h
 ·exact .inl h
theorem take_lt{L:List En}{key:ByteArray}:∀e∈L.take (findN L key),lt e.key key=true:=by
 intro e he;obtain⟨i,hi,rfl⟩:=List.getElem_of_mem he;have h1:i<findN L key:=by have:=List.length_take_le (findN L key) L;omega
 have h2:i<L.length:=by have:=findN_le L key;omega
 have:=findN_lt h1;rw [atE_get L i h2] at this;simpa using this
theorem drop_gt{L:List En}{key:ByteArray}(hr:Rises L)(hh:hasB L key=false):∀e∈L.drop (findN L key),lt key e.key=true:=by
 intro e he;obtain⟨i,hi,rfl⟩:=List.getElem_of_mem he;have hl:findN L key+i<L.length:=by simp at hi;omega
 have hn:findN L key<L.length:=by omega
 have h0:lt key (atE L (findN L key)).key=true:=by
  have a:=findN_at hn;unfold hasB at hh;simp [hn] at hh;rcases lt_tri key (atE L (findN L key)).key with q | q | q
  ·exact q
  ·rw [(same_iff _ _).2 q.symm] at hh;exact Bool.noConfusion hh
  ·rw [a] at q;exact Bool.noConfusion q
 rw [atE_get L _ hn] at h0;simp only [List.getElem_drop];by_cases hz:i=0
 ·subst hz;simpa using h0
 ·have:=(List.pairwise_iff_getElem.1 hr) (findN L key) (findN L key+i) (by simpa using hn) (by simpa using hl) (by omega)
  exact lt_trans h0 (by simpa using this)
theorem has_at{L:List En}{key:ByteArray}(h:hasB L key=true):∃hn:findN L key<L.length,L[findN L key].key=key:=by
 unfold hasB at h;rw [Bool.and_eq_true,decide_eq_true_eq] at h;refine⟨h.1,?_⟩;have:=(same_iff _ _).1 h.2;rwa [atE_get L _ h.1] at this
theorem do_ok{L:List En}{d:D}(h:okBook L=true)(o:okD d=true):okBook (doB L d).1=true:=by
 have h':=h;rw [okBook_iff] at h ⊢;obtain⟨h8,he,hr⟩:=h;have od:=(De.okD_iff d).1 o;have hset:∀x:Int,hasB L d.key=true→0≤x∧x≤9999→(L.set (findN L d.key) ⟨(atE L (findN L d.key)).key,x⟩).length≤8∧(∀e∈L.set (findN L d.key) ⟨(atE L (findN L d.key)).key,x⟩,EnOk e)∧Rises (L.set (findN L d.key) ⟨(atE L (findN L d.key)).key,x⟩):=by
  intro x hh hx;obtain⟨hn,_⟩:=has_at hh;refine⟨by simpa using h8,fun e hm=>?_,?_⟩
  ·rcases mem_set hm with rfl | hm
   ·exact⟨(he _ (atE_mem L _ hn)).1,hx⟩
   ·exact he e hm
  ·unfold Rises;rw [map_set L _ hn];exact hr
 have hval:hasB L d.key=true→0≤(atE L (findN L d.key)).val:=fun hh=>by
  obtain⟨hn,_⟩:=has_at hh;exact(he _ (atE_mem L _ hn)).2.1
 have a1:=od.v0;have a2:=od.v1;have a3:=od.n0;have a4:=od.n1;unfold doB doC;by_cases k1:d.kind=1
 ·rw [if_pos k1]
  cases hh:hasB L d.key
  ·rw [if_neg (by simp)];by_cases hl:L.length=8
   ·rw [if_pos hl];exact⟨h8,he,hr⟩
   ·rw [if_neg hl];have hfl:=findN_le L d.key;refine⟨by simp;omega,fun e hm=>?_,?_⟩
    ·simp only [List.mem_append,List.mem_singleton] at hm;rcases hm with(hm | rfl) | hm
     ·exact he e (List.mem_of_mem_take hm)
     ·exact⟨od.key,by omega,by show d.val≤9999;omega⟩
     ·exact he e (List.mem_of_mem_drop hm)
    ·unfold Rises;rw [List.map_append,List.map_append,List.pairwise_append,List.pairwise_append];have hs1:(L.take (findN L d.key)).map En.key=(L.map En.key).take (findN L d.key):=by rw [List.map_take]
     have hs2:(L.drop (findN L d.key)).map En.key=(L.map En.key).drop (findN L d.key):=by rw [List.map_drop]
     refine⟨⟨by rw [hs1];exact hr.sublist (List.take_sublist _ _),by simp,fun a ha b hb=>?_⟩,by rw [hs2];exact hr.sublist (List.drop_sublist _ _),fun a ha b hb=>?_⟩
     ·obtain⟨e,hm,rfl⟩:=List.mem_map.1 ha;simp at hb;subst hb;exact take_lt e hm
     ·obtain⟨f,hf,rfl⟩:=List.mem_map.1 hb;have hg:=drop_gt hr hh f hf;rw [List.mem_append] at ha;rcases ha with ha | ha
      ·obtain⟨e,hm,rfl⟩:=List.mem_map.1 ha;exact lt_trans (take_lt e hm) hg
      ·simp at ha;subst ha;exact hg
  ·rw [if_pos rfl];exact hset _ hh ⟨a1,by omega⟩
 ·rw [if_neg k1]
  cases hh:hasB L d.key
  ·rw [if_pos rfl];exact⟨h8,he,hr⟩
  ·rw [if_neg (by simp)];have hv:=hval hh;by_cases k2:d.kind=2
   ·rw [if_pos k2];refine⟨by simp;omega,fun e hm=>?_,?_⟩
    ·rw [List.mem_append] at hm;rcases hm with hm | hm
     ·exact he e (List.mem_of_mem_take hm)
     ·exact he e (List.mem_of_mem_drop hm)
    ·have hs:(L.take (findN L d.key)++L.drop (findN L d.key+1)).Sublist L:=by
      conv=>rhs;rw [← List.take_append_drop (findN L d.key) L]
      exact List.Sublist.append (List.Sublist.refl _) (by rw [← List.drop_drop];exact List.drop_sublist _ _)
     exact hr.sublist (hs.map En.key)
   ·rw [if_neg k2];by_cases k3:d.kind=3
    ·rw [if_pos k3];by_cases h9:(atE L (findN L d.key)).val+d.val > 9999
     ·rw [if_pos h9];exact⟨h8,he,hr⟩
     ·rw [if_neg h9];exact hset _ hh ⟨by omega,by omega⟩
    ·rw [if_neg k3];by_cases h9:(atE L (findN L d.key)).val≠d.val
     ·rw [if_pos h9];exact⟨h8,he,hr⟩
     ·rw [if_neg h9];exact hset _ hh ⟨a3,by omega⟩
/-! ### words -/
end Bk
namespace Tx
end Tx
namespace De
open Kn (B)
structure RSt(w wr:World)(g x:Nat)(P:List (List UInt8))(k:Int)(s:ByteArray)(v n:Int):Prop where
 bel:Below w.heap.size w wr
 two:TwoD w.heap.size x wr k s v n
 gx:g<x
 wg:w.heap.size<g
 cells:∀j,j<P.length→wr.cell? ⟨g,j,none⟩=some (.string (B (P.getD j [])))
section
variable {w wr:World} {g x:Nat} {P:List (List UInt8)} {k v n:Int} {s:ByteArray}
theorem RSt.below{V:World}(t:RSt w wr g x P k s v n)(hb:Below wr.heap.size wr V):RSt w V g x P k s v n:=
 ⟨t.bel.trans (hb.mono t.bel.size),t.two.below hb,t.gx,t.wg,fun j hj=>(hb.cell (p:=⟨g,j,none⟩) (Nat.lt_trans t.gx t.two.lt)).trans (t.cells j hj)⟩
theorem RSt.drew(t:RSt w wr g x P k s v n):RSt w wr.drew g x P k s v n:=t.below (Below.refl _ _).drew
end
theorem put4D{w:World}{b:Nat}{u0 u1 u2 u3:Value}(r0:w.cell? ⟨b,0,none⟩=some u0)(r1:w.cell? ⟨b,1,none⟩=some u1)(r2:w.cell? ⟨b,2,none⟩=some u2)(r3:w.cell? ⟨b,3,none⟩=some u3)(v0 v1 v2 v3:Value) :
  ((((w.setCell ⟨b,0,none⟩ v0).setCell ⟨b,1,none⟩ v1).setCell ⟨b,2,none⟩ v2).setCell ⟨b,3,none⟩ v3).cell? ⟨b,0,none⟩=some v0 ∧
  ((((w.setCell ⟨b,0,none⟩ v0).setCell ⟨b,1,none⟩ v1).setCell ⟨b,2,none⟩ v2).setCell ⟨b,3,none⟩ v3).cell? ⟨b,1,none⟩=some v1 ∧
  ((((w.setCell ⟨b,0,none⟩ v0).setCell ⟨b,1,none⟩ v1).setCell ⟨b,2,none⟩ v2).setCell ⟨b,3,none⟩ v3).cell? ⟨b,2,none⟩=some v2 ∧
  ((((w.setCell ⟨b,0,none⟩ v0).setCell ⟨b,1,none⟩ v1).setCell ⟨b,2,none⟩ v2).setCell ⟨b,3,none⟩ v3).cell? ⟨b,3,none⟩=some v3:=by
 refine⟨?_,?_,?_,?_⟩
 ·rw [World.cell?_setCell_other _ _ _ _ (by simp),World.cell?_setCell_other _ _ _ _ (by simp),World.cell?_setCell_other _ _ _ _ (by simp)];exact World.cell?_setCell_same _ _ _ r0
 ·rw [World.cell?_setCell_other _ _ _ _ (by simp),World.cell?_setCell_other _ _ _ _ (by simp)];exact World.cell?_setCell_same _ _ _ ((World.cell?_setCell_other _ _ _ _ (by simp)).trans r1)
 ·rw [World.cell?_setCell_other _ _ _ _ (by simp)];exact World.cell?_setCell_same _ _ _ ((World.cell?_setCell_other _ _ _ _ (by simp)).trans ((World.cell?_setCell_other _ _ _ _ (by simp)).trans r2))
 ·exact World.cell?_setCell_same _ _ _ ((World.cell?_setCell_other _ _ _ _ (by simp)).trans ((World.cell?_setCell_other _ _ _ _ (by simp)).trans ((World.cell?_setCell_other _ _ _ _ (by simp)).trans r3)))
end De
namespace Bk
open De (D okD keyB)
def OwI(B:Nat)(w:World)(g c:Nat)(l:List Int):Prop:=w.ownsRow B 2 1 (.slice (some ⟨g,0,none⟩) l.length c) l.length (l.map (Value.int .i64))
section
variable {B g c:Nat} {w w':World} {l:List Int}
theorem OwI.lt(h:OwI B w g c l):B≤g∧g<w.heap.size:=World.ownsRow.lt h g rfl
theorem OwI.below(h:OwI B w g c l)(hb:Below w.heap.size w w'):OwI B w' g c l:=by
 have hlt:=h.lt;obtain⟨h1,h2⟩:=h;refine⟨h1,?_⟩;rcases h2 with h2 | ⟨g',cap',cur,hv,hB,hg,rest⟩
 ·exact .inl h2
 ·have e:g=g':=by injection hv with hv;injection hv with hv;injection hv
  subst e;exact .inr ⟨g,cap',cur,hv,hB,(hb.block g hlt.2).trans hg,rest⟩
end
theorem OwE.keep{B q g c:Nat}{w w':World}{L:List En}(h:OwE B w g c L)(hg:w.grownBy w' (some q))(hne:g≠q):OwE B w' g c L:=
 World.ownsRow.kept h hg (.inr (fun e=>hne (by simpa [Value.ownBlock] using e)))
end Bk
end
section
namespace De
def szI(left:Int)(n:Nat):Int:=if left<(n:Int) then -1 else left-(n:Int)
theorem szDeed(h r f:Int)(s:ByteArray)(left:Int)(w:World)(hs:s.size≤maxLen)(hl0:0≤left)(hl1:left≤1048576) :
  Calls Try.prog 20 #[.agg #[.int .i64 h,.string s,.int .i64 r,.int .i64 f],.int .i64 left] w fun e w'=>e=.returned (.int .i64 (szI left s.size))∧Below w.heap.size w w':=by
 unfold maxLen at hs;have B1:∀o:Obj,Below w.heap.size w (w.alloc o):=fun o=>(Below.refl _ _).alloc (Nat.le_refl _) o
 by_cases hlt:left<(s.size:Int)
 ·have HS:Hid (szI left s.size=-1):=if_pos hlt;have hlt':left-(s.size:Int)<0:=by omega
  go_enter Try.func20,Try.ntmps20
  go_wp2;go_ret;exact⟨by rw [HS.out];rfl,B1 _⟩
 ·have HS:Hid (szI left s.size=left-(s.size:Int)):=if_neg hlt;have hlt':¬ left-(s.size:Int)<0:=by omega
  go_enter Try.func20,Try.ntmps20
  go_wp2;go_ret;exact⟨by rw [HS.out];rfl,B1 _⟩
theorem toDeed(h r f:Int)(s:ByteArray)(w:World) :
  Calls Try.prog 21 #[.agg #[.int .i64 h,.string s,.int .i64 r,.int .i64 f]] w fun e w'=>e=.returned (.agg #[.int .i64 h,.string s,.int .i64 r,.int .i64 f])∧Below w.heap.size w w':=by
 go_enter Try.func21,Try.ntmps21
 go_wp2;exact bodyPost_ret (v:=.agg #[.int .i64 h,.string s,.int .i64 r,.int .i64 f]) (by simp [results,Try.results21,go_sem]) rfl ⟨rfl,(((Below.refl _ _).alloc (Nat.le_refl _) _).alloc (by simp) _).alloc (by simp;omega) _⟩
end De
namespace Bk
open De (szI)
def Small(L:List En):Prop:=L.length≤1048576∧∀k∈L,k.key.size≤1048576
theorem szI_lo(x:Int)(n:Nat)(h:x<(n:Int)):szI x n=-1:=if_pos h
theorem szI_hi(x:Int)(n:Nat)(h:¬ x<(n:Int)):szI x n=x-(n:Int):=if_neg h
theorem szEntry(s:ByteArray)(v left:Int)(w:World)(hs:s.size≤maxLen)(hl0:0≤left)(hl1:left≤1048576) :
  Calls Try.prog 39 #[.agg #[.string s,.int .i64 v],.int .i64 left] w fun e w'=>e=.returned (.int .i64 (szI left s.size))∧Below w.heap.size w w':=by
 unfold maxLen at hs;have B1:∀o:Obj,Below w.heap.size w (w.alloc o):=fun o=>(Below.refl _ _).alloc (Nat.le_refl _) o
 by_cases hlt:left<(s.size:Int)
 ·have HS:Hid (szI left s.size=-1):=if_pos hlt;have hlt':left-(s.size:Int)<0:=by omega
  go_enter Try.func39,Try.ntmps39
  go_wp2;go_ret;exact⟨by rw [HS.out];rfl,B1 _⟩
 ·have HS:Hid (szI left s.size=left-(s.size:Int)):=if_neg hlt;have hlt':¬ left-(s.size:Int)<0:=by omega
  go_enter Try.func39,Try.ntmps39
  go_wp2;go_ret;exact⟨by rw [HS.out];rfl,B1 _⟩
theorem toEntry(s:ByteArray)(v:Int)(w:World) :
  Calls Try.prog 40 #[.agg #[.string s,.int .i64 v]] w fun e w'=>e=.returned (.agg #[.string s,.int .i64 v])∧Below w.heap.size w w':=by
 go_enter Try.func40,Try.ntmps40
 go_wp2;exact bodyPost_ret (v:=.agg #[.string s,.int .i64 v]) (by simp [results,Try.results40,go_sem]) rfl ⟨rfl,(((Below.refl _ _).alloc (Nat.le_refl _) _).alloc (by simp) _).alloc (by simp;omega) _⟩
theorem eqEntry(s:ByteArray)(v:Int)(w:World) :
  Calls Try.prog 41 #[.agg #[.string s,.int .i64 v],.agg #[.string s,.int .i64 v]] w fun e w'=>e=.returned (.bool true)∧Below w.heap.size w w':=by
 go_enter Try.func41,Try.ntmps41
 go_wp2;go_ret;exact⟨rfl,((Below.refl _ _).alloc (Nat.le_refl _) _).alloc (by simp) _⟩
def SzPost(L:List En)(left:Int)(w:World)(e:Ending)(w':World):Prop:=∃r:Int,e=.returned (.int .i64 r)∧-1≤r∧r≤left∧(0≤r→Small L)∧Below w.heap.size w w'
theorem szEntryS(ao:Option Addr)(cap:Nat)(L:List En)(left:Int)(w:World)(hl:L.length≤maxLen)(hws:∀k∈L,k.key.size≤maxLen)(hl0:0≤left)(hl1:left≤1048576)(hr:RdE w ao L) :
  Calls Try.prog 17 #[.slice ao L.length cap,.int .i64 left] w (SzPost L left w):=by
 unfold maxLen at hl;by_cases hbig:left<(L.length:Int)
 ·have hb':left-(L.length:Int)<0:=by omega
  go_enter Try.func17,Try.ntmps17
  go_wp2;go_ret;exact⟨-1,rfl,by omega,by omega,fun h=>by omega,Below.refl _ _⟩
 ·have hb':¬ left-(L.length:Int)<0:=by omega
  have hlen:L.length≤1048576:=by omega
  clear hbig;go_enter Try.func17,Try.ntmps17
  go_wp2;go_loopw [1,5] (fun x i wr=>∃(j:Nat) (y:Int),j≤L.length∧i=.int .i64 j∧x=.int .i64 y∧0≤y∧y≤left∧Hid (∀k∈L.take j,k.key.size≤1048576)∧Hid (Below w.heap.size w wr)) (fun _ i _=>L.length-(intOf i).toNat)
  case atStart=>exact⟨0,left-(L.length:Int),by omega,rfl,rfl,by omega,by omega,fun k hk=>by simp at hk,Below.refl _ _⟩
  case round=>
   obtain⟨j,y,hj,rfl,rfl,hy0,hy1,HW,HB⟩:=hrel;by_cases hlt:j<L.length
   ·obtain⟨g,off,rfl,hg,hc⟩:=hr.at j hlt;obtain⟨c0,c1⟩:=hc.below HB.out hg;have hwm:=hws _ (atE_mem L j hlt);clear hc;go_wp2_with fail
    refine(szEntry _ _ y _ hwm hy0 (by omega)).mono ?_;rintro e w1 ⟨rfl,hb1⟩;have HB1:Hid (Below w.heap.size w w1):=HB.out.trans (hb1.mono HB.out.size);clear hb1 HB hwm;by_cases hq:y<((atE L j).key.size:Int)
    ·rw [szI_lo _ _ hq];clear hq;go_wp2;go_ret;exact⟨-1,rfl,by omega,by omega,fun h=>by omega,HB1.out⟩
    ·rw [szI_hi _ _ hq];have hq':¬ y-((atE L j).key.size:Int)<0:=by omega
     have HW1:Hid (∀k∈L.take (j+1),k.key.size≤1048576):=by
      intro k hk;rw [takeE_snoc L j hlt,List.mem_append] at hk;rcases hk with hk | hk
      ·exact HW.out k hk
      ·simp at hk;rw [hk];omega
     clear hq HW;go_wp2;go_roundw
     case rel=>exact⟨j+1,_,by omega,by go_num,rfl,by omega,by omega,HW1,HB1⟩
     case measure=>simp [intOf];omega
   ·obtain rfl:j=L.length:=by omega
    have HS:Hid (Small L):=⟨hlen,by have:=HW.out;rwa [List.take_length] at this⟩
    go_wp2;go_ret;exact⟨y,rfl,by omega,hy1,fun _=>HS.out,HB.out⟩
structure Made(w:World)(B n:Nat)(L:List En)(j:Nat):Prop where
 lt:B<w.heap.size
 rd:∀i,i<j→CellsE w B (i*2) (atE L i)
 ex:∀i,i<n*2→∃v,w.cell? ⟨B,i,none⟩=some v
 fr:∀i,w.frozen? ⟨B,i,none⟩=false
theorem Made.below{w w':World}{B n j:Nat}{L:List En}(h:Made w B n L j)(hb:Below w.heap.size w w'):Made w' B n L j where
 lt:=Nat.lt_of_lt_of_le h.lt hb.size
 rd:=fun i hi=>(h.rd i hi).below hb h.lt
 ex:=fun i hi=>by obtain⟨v,hv⟩:=h.ex i hi;exact⟨v,(hb.cell (p:=⟨B,i,none⟩) h.lt).trans hv⟩
 fr:=fun i=>(hb.frozen (p:=⟨B,i,none⟩) h.lt).trans (h.fr i)
def put2(w:World)(B o:Nat)(k:En):World:=(w.setCell ⟨B,o,none⟩ (.string k.key)).setCell ⟨B,o+1,none⟩ (.int .i64 k.val)
theorem ne_off{B i o:Nat}(h:i≠o):(⟨B,o,none⟩:Addr)≠⟨B,i,none⟩:=by intro e;injection e with _ e;exact h e.symm
theorem put2_other(w:World)(B o:Nat)(k:En)(i:Nat)(h:i<o∨o+2≤i):(put2 w B o k).cell? ⟨B,i,none⟩=w.cell? ⟨B,i,none⟩:=by
 unfold put2;rw [World.cell?_setCell_other _ _ _ _ (ne_off (by omega)),World.cell?_setCell_other _ _ _ _ (ne_off (by omega))]
theorem put2_there{w:World}{B o:Nat}(k:En){v0 v1:Value}(h0:w.cell? ⟨B,o,none⟩=some v0)(h1:w.cell? ⟨B,o+1,none⟩=some v1):CellsE (put2 w B o k) B o k:=by
 unfold put2;refine⟨?_,?_⟩
 ·rw [World.cell?_setCell_other _ _ _ _ (ne_off (by omega))];exact World.cell?_setCell_same _ _ _ h0
 ·exact World.cell?_setCell_same _ _ _ ((World.cell?_setCell_other _ _ _ _ (ne_off (by omega))).trans h1)
theorem Made.put{w:World}{B n j:Nat}{L:List En}(h:Made w B n L j)(hj:j<n):Made (put2 w B (j*2) (atE L j)) B n L (j+1):=by
 obtain⟨v0,e0⟩:=h.ex (j*2) (by omega);obtain⟨v1,e1⟩:=h.ex (j*2+1) (by omega);have hk:=put2_there (atE L j) e0 e1;refine⟨by unfold put2;simpa using h.lt,fun i hi=>?_,fun i hi=>?_,fun i=>by unfold put2;simpa using h.fr i⟩
 ·by_cases he:i=j
  ·rw [he];exact hk
  ·have hc:=h.rd i (by omega);exact⟨(put2_other w B _ _ _ (by omega)).trans hc.c0,(put2_other w B _ _ _ (by omega)).trans hc.c1⟩
 ·by_cases he:i<j*2∨j*2+2≤i
  ·rw [put2_other w B _ _ i he];exact h.ex i hi
  ·rcases(show i=j*2∨i=j*2+1 by omega) with rfl | rfl
   ·exact⟨_,hk.c0⟩
   ·exact⟨_,hk.c1⟩
theorem below_put2{b B:Nat}{a w:World}(h:Below b a w)(hB:b≤B)(o:Nat)(k:En):Below b a (put2 w B o k):=
 (h.setCell (p:=⟨B,o,none⟩) hB _).setCell (p:=⟨B,o+1,none⟩) hB _
theorem made_new(w:World)(t:TypeId)(z:Array Value)(n:Nat)(L:List En):Made (w.alloc (.cells (madeCells z (n*2)) t)) w.heap.size n L 0 where
 lt:=by simp
 rd:=fun i hi=>by omega
 ex:=fun i hi=>by
  rw [World.cell?_alloc_new];have:i<(madeCells z (n*2)).size:=by rw [size_madeCells];exact hi
  exact⟨_,Array.getElem?_eq_getElem this⟩
 fr:=fun i=>by simp
def ToPost(L:List En)(w:World)(e:Ending)(w':World):Prop:=e=.returned (.slice (some ⟨w.heap.size,0,none⟩) L.length L.length)∧Made w' w.heap.size L.length L L.length∧Below w.heap.size w w'
theorem made_rd{w:World}{B n:Nat}{L:List En}(h:Made w B n L L.length):RdE w (some ⟨B,0,none⟩) L:=
 .inr ⟨B,0,rfl,h.lt,fun i hi=>by rw [Nat.zero_add];exact h.rd i hi⟩
theorem toEntryS(ao:Option Addr)(cap:Nat)(L:List En)(w:World)(hl:L.length≤1048576)(hr:RdE w ao L) :
  Calls Try.prog 18 #[.slice ao L.length cap] w (ToPost L w):=by
 obtain⟨i0,hi,hz0,hz1,hz2⟩:=info_parts infoE;have hmk:∀W:World,(Instr.makeSlice 24 (.int .i64 (L.length:Int)) (.int .i64 (L.length:Int))).run Try.prog W=.ok (.slice (some ⟨W.heap.size,0,none⟩) L.length L.length) (W.alloc (.cells (madeCells (Value.agg #[.string ⟨#[]⟩,.int .i64 0]).cells (L.length*2)) 38)):=by
  intro W;have:=run_make (P:=Try.prog) W 24 38 i0 _ Try.underlying24 hi hz0 .i64 .i64 (L.length:Int) (L.length:Int) (by omega) (by omega) (by rw [hz2];omega) (by omega);rw [hz1] at this;simpa using this
 have HP:Hid (Made (w.alloc (.cells (madeCells (Value.agg #[.string ⟨#[]⟩,.int .i64 0]).cells (L.length*2)) 38)) w.heap.size L.length L 0∧Below w.heap.size w (w.alloc (.cells (madeCells (Value.agg #[.string ⟨#[]⟩,.int .i64 0]).cells (L.length*2)) 38))):=⟨made_new _ _ _ _ _,(Below.refl _ _).alloc (Nat.le_refl _) _⟩
 clear hi hz0 hz1 hz2;generalize (Value.agg #[.string ⟨#[]⟩,.int .i64 0]).cells=zc at hmk HP;generalize madeCells zc (L.length*2)=mc at hmk HP;go_enter Try.func18,Try.ntmps18
 go_wp2;clear hmk;go_loopw [4] (fun i wr=>∃j:Nat,j≤L.length∧i=.int .i64 j∧Hid (Made wr w.heap.size L.length L j)∧Hid (Below w.heap.size w wr)) (fun i _=>L.length-(intOf i).toNat)
 case atStart=>exact⟨0,by omega,rfl,HP.out.1,HP.out.2⟩
 case round=>
  obtain⟨j,hj,rfl,HM,HB⟩:=hrel;by_cases hlt:j<L.length
  ·obtain⟨g,off,rfl,hg,hc⟩:=hr.at j hlt;obtain⟨c0,c1⟩:=hc.below HB.out hg;clear hc;go_wp2_with fail
   refine(toEntry _ _ _).mono ?_;rintro e w1 ⟨rfl,hb1⟩;have M1:=HM.out.below hb1;have B1:=HB.out.trans (hb1.mono HB.out.size);obtain⟨v0,e0⟩:=M1.ex (j*2) (by omega);obtain⟨v1,e1⟩:=M1.ex (j*2+1) (by omega);have f0:=M1.fr (j*2);have f1:=M1.fr (j*2+1);have HM1:Hid (Made (put2 w1 w.heap.size (j*2) (atE L j)) w.heap.size L.length L (j+1)):=M1.put hlt;have HB1:Hid (Below w.heap.size w (put2 w1 w.heap.size (j*2) (atE L j))):=below_put2 B1 (Nat.le_refl _) _ _;clear M1 B1 hb1 HM HB c0 c1;go_wp2;go_roundw
   case rel=>exact⟨j+1,by omega,by go_num,HM1,HB1⟩
   case measure=>simp [intOf];omega
  ·obtain rfl:j=L.length:=by omega
   go_wp2;go_ret;exact⟨rfl,HM.out,HB.out⟩
theorem eqEntryS(a b:Option Addr)(ca cb:Nat)(L:List En)(w:World)(hl:L.length≤1048600)(ha:RdE w a L)(hb:RdE w b L) :
   Calls Try.prog 19 #[.slice a L.length ca,.slice b L.length cb] w fun e w'=>e=.returned (.bool true)∧Below w.heap.size w w':=by
 go_enter Try.func19,Try.ntmps19
 go_wp2;go_loopw [5] (fun i wr=>∃j:Nat,j≤L.length∧i=.int .i64 j∧Hid (Below w.heap.size w wr)) (fun i _=>L.length-(intOf i).toNat)
 case atStart=>exact⟨0,by omega,rfl,Below.refl _ _⟩
 case round=>
   obtain⟨j,hj,rfl,HB⟩:=hrel;by_cases hlt:j<L.length
   · obtain⟨g,o,rfl,hg,hc⟩:=(ha.below HB.out).at j hlt;obtain⟨g',o',rfl,hg',hc'⟩:=(hb.below HB.out).at j hlt;obtain⟨X,_,F,HF,HG⟩:=Fam.fam wr;have HC:Hid (∀z,CellsE (F z) g (o+j*2) (atE L j)):=fun z=>hc.below (HF.out z) hg
     have HC':Hid (∀z,CellsE (F z) g' (o'+j*2) (atE L j)):=fun z=>hc'.below (HF.out z) hg'
     clear hc hc';generalize atE L j=k at HC HC';have c0:=fun z=>(HC.out z).c0
     have c1:=fun z=>(HC.out z).c1
     have d0:=fun z=>(HC'.out z).c0
     have d1:=fun z=>(HC'.out z).c1
     go_wp2_with fail
     refine Fam.region (F:=F) (by kernel_rfl) (by kernel_rfl) (HG.out _ (Below.refl _ wr).drew) ?_
     repeat (go_big_quiet_step (first
       | (go_at_call 41;exact(eqEntry _ _ _).mono fun _ _ h=>⟨h.1,HG.out _ ((HF.out _).trans (h.2.mono (HF.out _).size))⟩)))
     refine wpQuiet_nil ?_;intro w2 hw2;obtain⟨z,rfl⟩:=hw2;have HB2:Hid (Below w.heap.size w (F z)):=HB.out.trans ((HF.out z).mono HB.out.size);clear c0 c1 d0 d1;go_wp2;go_roundw
     case rel=>exact⟨j+1,by omega,by go_num,HB2⟩
     case measure=>simp [intOf];omega
   · obtain rfl:j=L.length:=by omega
     go_wp2;go_ret;exact⟨rfl,HB.out⟩
theorem likeBook(a b:Option Addr)(ca cb:Nat)(L:List En)(w:World)(hl:L.length≤1048600)(ha:RdE w a L)(hb:RdE w b L) :
  Calls Try.prog 13 #[.slice a L.length ca,.slice b L.length cb] w fun e w'=>e=.returned (.bool true)∧Below w.heap.size w w':=by
 go_enter Try.func13,Try.ntmps13
 go_wp2;go_loopw [5] (fun i wr=>∃j:Nat,j≤L.length∧i=.int .i64 j∧Hid (Below w.heap.size w wr)) (fun i _=>L.length-(intOf i).toNat)
 case atStart=>exact⟨0,by omega,rfl,Below.refl _ _⟩
 case round=>
  obtain⟨j,hj,rfl,HB⟩:=hrel;by_cases hlt:j<L.length
  ·obtain⟨g,o,rfl,hg,hc⟩:=(ha.below HB.out).at j hlt;obtain⟨g',o',rfl,hg',hc'⟩:=(hb.below HB.out).at j hlt;have HBD:Hid (Below w.heap.size w wr.drew):=HB.out.drew;obtain⟨c0,c1⟩:=hc;obtain⟨d0,d1⟩:=hc';generalize atE L j=k at c0 c1 d0 d1;clear HB;go_wp2_with fail
   go_region
   go_wp2;go_roundw
   case rel=>exact⟨j+1,by omega,by go_num,HBD⟩
   case measure=>simp [intOf];omega
  ·obtain rfl:j=L.length:=by omega
   go_wp2;go_ret;exact⟨rfl,HB.out⟩
end Bk
namespace Bk
structure Row(w:World)(g cap:Nat)(X:List Value):Prop where
 at_:w.heap[g]? = some (.cells X.toArray 38 (0,0))
 len:X.length=cap*2
 max:cap≤maxLen
theorem Row.lt{w:World}{g cap:Nat}{X:List Value}(h:Row w g cap X):g<w.heap.size:=(Array.getElem?_eq_some_iff.1 h.at_).1
theorem OwE.row{B g cap:Nat}{w:World}{L:List En}(h:OwE B w g cap L):∃X,Row w g cap X∧X.take (L.length*2)=flatE L∧L.length≤cap∧B≤g:=by
 obtain⟨hl,⟨hv0,_⟩ | ⟨g',cap',cur,hvs,hbg,hcur,hmc,hm,hs,htake⟩⟩:=h
 ·exact absurd hv0 (by simp)
 ·injection hvs with ha _ hc;injection ha with ha;injection ha with h1 _;subst hc h1;exact⟨cur.toList,⟨by simpa using hcur,by simpa using hs,hm⟩,htake,hmc,hbg⟩
theorem Row.own{B g cap:Nat}{w:World}{X:List Value}{L:List En}(h:Row w g cap X)(ht:X.take (L.length*2)=flatE L)(hc:L.length≤cap)(hB:B≤g):OwE B w g cap L:=
 ⟨flatE_len L,.inr ⟨g,cap,X.toArray,rfl,hB,h.at_,hc,h.max,by simpa using h.len,by simpa using ht⟩⟩
theorem grown_row{w:World}{g:Nat}(cs:Array Value):w.grownBy (w.setRow g cs) (some g):=⟨rfl,rfl,rfl,by simp,fun k _ hk=>setRow_other w g k _ (fun e=>hk (by rw [e]))⟩
theorem growB_trans{w1 w2 w3:World}{r:Option Nat}(h1:w1.grownBy w2 r)(h2:w2.grownBy w3 r):w1.grownBy w3 r:=
 ⟨h2.os.trans h1.os,h2.tape.trans h1.tape,h2.output.trans h1.output,Nat.le_trans h1.size h2.size,fun k hk hr=>(h2.block k (Nat.lt_of_lt_of_le hk h1.size) hr).trans (h1.block k hk hr)⟩
theorem Row.store{w:World}{g cap:Nat}{X:List Value}(R:Row w g cap X)(o:Nat)(vs:List Value)(hfit:o+vs.length≤X.length)(h1:∀v∈vs,v.oneCell'=true) :
  ∃w',(storeCells ⟨g,o,none⟩ vs 0).run Try.prog w=.ok () w'∧Row w' g cap (splice X o vs)∧w.grownBy w' (some g):=by
 have h:=run_storeCells_at Try.prog g o 38 vs 0 X.toArray w R.at_ (by simpa using hfit) h1;refine⟨_,h,⟨?_,by rw [length_splice X o vs hfit];exact R.len,R.max⟩,grown_row _⟩;rw [setRow_heap w g _ _ _ _ R.at_];simp [splice]
theorem setCells_row{w:World}{g cap:Nat}{X:List Value}(R:Row w g cap X)(o:Nat)(vs:List Value)(hfit:o+vs.length≤X.length)(h1:∀v∈vs,v.oneCell'=true) :
  Row (w.setCells g o vs) g cap (splice X o vs)∧w.grownBy (w.setCells g o vs) (some g):=by
 obtain⟨w',hr,hR,hg⟩:=R.store o vs hfit h1;have hcell:∀j,o+j<X.length→(w.cell? ⟨g,o+j,none⟩).isSome=true∧w.frozen? ⟨g,o+j,none⟩=false:=fun j hj=>by
  constructor
  ·simp [World.cell?,R.at_,hj]
  ·simp [World.frozen?,R.at_]
 have h2:=run_storeCells_cells (P:=Try.prog) g o vs 0 w (fun j hj=>by rw [Nat.add_zero];exact(hcell j (by omega)).1) (fun j hj=>by rw [Nat.add_zero];exact(hcell j (by omega)).2) h1;rw [h2] at hr;simp only [Nat.add_zero] at hr;injection hr with _ hr;rw [hr];exact⟨hR,hg⟩
theorem sizeE:(sizeOf 38).run Try.prog=fun w=>.ok 2 w:=by
 obtain⟨i0,hi,hz0,hz1,hz2⟩:=info_parts infoE;funext w
 simp [sizeOf,typeInfo,hi,hz1]
theorem run_copyE{w:World}(dT sT ty:TypeId)(hu:Try.prog.underlying dT=some (.slice 38)){g cap:Nat}{X:List Value}(R:Row w g cap X)(o dLen dCap:Nat)(a:Addr)(sLen sCap:Nat)(M:List En)
  (hm:Nat.min sLen dLen=M.length) (hsrc:∀j v,(flatE M)[j]? = some v→w.cell? (a.add j)=some v) (hfit:o+M.length*2≤cap*2) :
  ∃w',(Builtin.copy_ #[dT,sT] ty #[.slice (some ⟨g,o,none⟩) dLen dCap,.slice (some a) sLen sCap]).run Try.prog w=.ok (goInt M.length) w'∧Row w' g cap (splice X o (flatE M))∧w.grownBy w' (some g):=by
 obtain⟨i0,hi,hz0,hz1,hz2⟩:=info_parts infoE;obtain⟨w',hr,hR,hg⟩:=R.store o (flatE M) (by rw [flatE_len,R.len];exact hfit) (flatE_one M);refine⟨w',?_,hR,hg⟩;have hl:=run_loadCells_list (P:=Try.prog) w a (flatE M) hsrc;rw [flatE_len] at hl;simp [Builtin.copy_,run_underlying hu,Builtin.lenOf,Builtin.firstCells,sizeOf,typeInfo,hi,hz1,hm,hl,hr]
theorem run_clearE{w:World}(dT ty:TypeId)(hu:Try.prog.underlying dT=some (.slice 38)){g cap:Nat}{X:List Value}(R:Row w g cap X)(o c:Nat)(hfit:o+2≤cap*2) :
  ∃w',(Builtin.clear_ #[dT] ty #[.slice (some ⟨g,o,none⟩) 1 c]).run Try.prog w=.ok (.tuple #[]) w'∧Row w' g cap (splice X o (flatE [e0]))∧w.grownBy w' (some g):=by
 obtain⟨w',hr,hR,hg⟩:=R.store o (flatE [e0]) (by rw [flatE_len,R.len];exact hfit) (flatE_one [e0]);refine⟨w',?_,hR,hg⟩;have hz:(Builtin.zeroCells (Value.agg #[.string ⟨#[]⟩,.int .i64 0]).cells 1).toList=flatE [e0]:=by kernel_rfl
 simp [Builtin.clear_,run_underlying hu,hz,hr]
theorem wpList_run_append{w:World}{ops:Array Oper}{rest:List Oper}{o:Oper}{a:Act}{Q:Exit→Act→World→Prop}(hgd:o.guard=none)(d s:Operand)(t t':TypeId)
  (ho:o.op=.call { callee:=.builtin .append,args:=#[d,s],argTypes:=#[t,t'] }) (v u:Value) (hd:a.eval d=v) (hs:a.eval s=u) {v':Value} {w':World}
  (hr:(Builtin.append_ #[t,t'] o.type #[v,u]).run Try.prog w=.ok v' w') (h:wpList Try.prog ops Q rest (a.put o.dst v') w'):wpList Try.prog ops Q (o :: rest) a w:=
 wpList_plain hgd fun K hK=>by
  unfold Oper.wp execOp;simp only [ho,resolve,invoke,builtin,Sem.run_bind,Sem.run_pure,Result.andThen_ok,List.map_toArray,List.map_cons,List.map_nil,hd,hs,hr];exact hK _ _ h
theorem step_run_copy{ops:Array Oper}{o:Oper}{a:Act}{w:World}{K:Act→World→Prop}{Q:Exit→Act→World→Prop}{E:Prop}
  (hg:o.guard=none) (d x:Operand) (dT sT:TypeId) (hop:o.op=Op.call { callee:=Callee.builtin Builtin.copy,args:=#[d,x],argTypes:=#[dT,sT] })
  (v u:Value) (hd:a.eval d=v) (hx:a.eval x=u) {v':Value} {w':World} (hr:(Builtin.copy_ #[dT,sT] o.type #[v,u]).run Try.prog w=.ok v' w') (hK:K (a.put o.dst v') w') :
  if Region.wanted o (yielded ops a.tmps)=true then Oper.wp Try.prog o a w K Q else E:=by
 rw [if_pos (by simp [Region.wanted,hg])];unfold Oper.wp;simp [execOp,hop,resolve,invoke,builtin,hd,hx,hr,Result.andThen];exact hK
theorem step_run_append{ops:Array Oper}{o:Oper}{a:Act}{w:World}{K:Act→World→Prop}{Q:Exit→Act→World→Prop}{E:Prop}
  (hg:o.guard=none) (d x:Operand) (dT sT:TypeId) (hop:o.op=Op.call { callee:=Callee.builtin Builtin.append,args:=#[d,x],argTypes:=#[dT,sT] })
  (v u:Value) (hd:a.eval d=v) (hx:a.eval x=u) {v':Value} {w':World} (hr:(Builtin.append_ #[dT,sT] o.type #[v,u]).run Try.prog w=.ok v' w') (hK:K (a.put o.dst v') w') :
  if Region.wanted o (yielded ops a.tmps)=true then Oper.wp Try.prog o a w K Q else E:=by
 rw [if_pos (by simp [Region.wanted,hg])];unfold Oper.wp;simp [execOp,hop,resolve,invoke,builtin,hd,hx,hr,Result.andThen];exact hK
theorem run_appendE{w:World}(t tx ty:TypeId)(ht:Try.prog.underlying t=some (.slice 38))(htx:Try.prog.underlying tx=some (.slice 38))
  {B g c:Nat} {A:List En} (hown:OwE B w g c A) (ad:Addr) (m c2:Nat) (M:List En) (hm:m=M.length)
  (hrd:∀j u,(flatE M)[j]? = some u→w.cell? (ad.add j)=some u) (hsz:A.length+m≤4000000) (hB:B≤w.heap.size) :
  ∃g' c' w',(Builtin.append_ #[t,tx] ty #[.slice (some ⟨g,0,none⟩) A.length c,.slice (some ad) m c2]).run Try.prog w=.ok (.slice (some ⟨g',0,none⟩) (A++M).length c') w' ∧
   OwE B w' g' c' (A++M)∧w.grownBy w' (some g)∧(g'=g∨g'=w.heap.size):=by
 obtain⟨i0,hi,hz0,hz1,hz2⟩:=info_parts infoE;have hsame:(Builtin.append_ #[t,tx] ty #[.slice (some ⟨g,0,none⟩) A.length c,.slice (some ad) m c2]).run Try.prog w=(Builtin.append_ #[t,t] ty #[.slice (some ⟨g,0,none⟩) A.length c,.slice (some ad) m c2]).run Try.prog w:=by
  simp [Builtin.append_,run_underlying ht,run_underlying htx]
 obtain⟨v',w',hr,h2,h3,h4,h5⟩:=run_append_own_at (P:=Try.prog) w B t ty 38 i0 (.agg #[.string ⟨#[]⟩,.int .i64 0]) 2 24 ht hi hz0 hz1 hz2 rfl (by decide) _ A.length (flatE A) hown ad m c2 (flatE M) (by rw [flatE_len,hm]) hrd (flatE_one M) (by unfold maxLen;omega) (by omega) hB;obtain⟨g',c',rfl,ho⟩:=OwE.of (L:=A) (M:=M) rfl hm h2 (by intro e;have:=(h4.1 e).1;simp at this);refine⟨g',c',w',hsame.trans hr,ho,h3,?_⟩;rcases h5 with h5 | h5 <;> simp [Value.ownBlock] at h5
 ·exact .inl h5
 ·exact .inr h5
end Bk
end
end Go.Proofs.Ytadbafppodhfpaa
