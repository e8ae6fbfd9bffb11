/-
 What the program's own BookOk, Done and ValueOf answer, with the memory that Done's answer lies in.
-/
import Derived.Test.Ytadbafppodhfpaaezg3
import Derived.Shelf.Abstract
set_option linter.unusedVariables false
set_option maxRecDepth 100000
set_option maxHeartbeats 4800000
namespace Go.Proofs.Ytadbafppodhfpaa
open Go.RowKit
section
namespace Bk
open De (D okD)
theorem find_at{L:List En}(h:okBook L=true){i:Nat}(hi:i<L.length):findN L L[i].key=i∧hasB L L[i].key=true:=by
 have hr:=((okBook_iff L).1 h).2.2;have e:findN L L[i].key=i:=by
  refine findN_eq _ L i (Nat.le_of_lt hi) (fun j hj=>?_) (fun _=>?_)
  ·have:=(List.pairwise_iff_getElem.1 hr) j i (by simp;omega) (by simpa using hi) hj;rw [atE_get L j (by omega)];simpa using this
  ·rw [atE_get L i hi];exact lt_irr _
 refine⟨e,?_⟩;unfold hasB;rw [e,atE_get L i hi];simp [hi,(same_iff _ _).2]
theorem val_mem{L:List En}(h:okBook L=true){e:En}(he:e∈L):valB L e.key=(e.val,true):=by
 obtain⟨i,hi,rfl⟩:=List.getElem_of_mem he;obtain⟨e1,e2⟩:=find_at h hi;unfold valB;rw [e1,e2,h,atE_get L i hi];rfl
theorem val_none{L:List En}{key:ByteArray}(h:∀e∈L,e.key≠key):valB L key=(0,false):=by
 unfold valB
 cases hh:hasB L key
 ·rfl
 ·obtain⟨hn,e⟩:=has_at hh;exact absurd e (h _ (List.getElem_mem hn))
theorem mem_other{L:List En}{n:Nat}{x e:En}(hn:n<L.length)(he:e∈L)(hk:e.key≠L[n].key):e∈L.set n x:=by
 obtain⟨i,hi,rfl⟩:=List.getElem_of_mem he;have hne:n≠i:=fun q=>hk (by subst q;rfl)
 have:(L.set n x)[i]'(by simpa using hi)=L[i]:=by simp [hne]
 rw [← this];exact List.getElem_mem _
theorem mem_new{L:List En}{n:Nat}{x:En}(hn:n<L.length):x∈L.set n x:=by
 have:(L.set n x)[n]'(by simpa using hn)=x:=by simp
 exact List.mem_iff_getElem.2 ⟨n,by simpa using hn,this⟩
structure Done(L M:List En)(d:D):Prop where
 ok:okBook M=true
 keep:∀e∈L,e.key≠d.key→valB M e.key=(e.val,true)
 put:d.kind=1→valB M d.key=(d.val,true)
 cut:d.kind=2→valB M d.key=(0,false)∧M.length+1=L.length
 add:d.kind=3→(valB M d.key).1=(valB L d.key).1+d.val
 iff:d.kind=4→(valB L d.key).1=d.val∧(valB M d.key).1=d.new
theorem set_done{L:List En}{d:D}(h:okBook L=true)(o:okD d=true)(hh:hasB L d.key=true)(x:Int)(hM:okBook (L.set (findN L d.key) ⟨(atE L (findN L d.key)).key,x⟩)=true) :
  (∀e∈L,e.key≠d.key→valB (L.set (findN L d.key) ⟨(atE L (findN L d.key)).key,x⟩) e.key=(e.val,true))∧valB (L.set (findN L d.key) ⟨(atE L (findN L d.key)).key,x⟩) d.key=(x,true)∧(valB L d.key).1=(atE L (findN L d.key)).val:=by
 obtain⟨hn,ek⟩:=has_at hh;refine⟨fun e he hk=>val_mem hM (mem_other hn he (by rw [ek];exact hk)),?_,?_⟩
 ·have:=val_mem hM (mem_new (x:=⟨(atE L (findN L d.key)).key,x⟩) hn);simp only at this;rwa [atE_get L _ hn,ek,← ek,← atE_get L _ hn] at this ⊢
 ·unfold valB;rw [hh,h];rfl
theorem do_done{L:List En}{d:D}(h:okBook L=true)(o:okD d=true)(hk:(doB L d).2=0):Done L (doB L d).1 d:=by
 have hM:=do_ok h o;have hr:=((okBook_iff L).1 h).2.2;unfold doB doC at hk hM ⊢;by_cases k1:d.kind=1
 ·rw [if_pos k1] at hk hM ⊢
  cases hh:hasB L d.key
  ·rw [hh,if_neg (by simp)] at hk hM;rw [if_neg (by simp)];by_cases hl:L.length=8
   ·rw [if_pos hl] at hk;simp at hk
   ·rw [if_neg hl] at hM ⊢;have hmem:∀e∈L,e∈L.take (findN L d.key)++[⟨d.key,d.val⟩]++L.drop (findN L d.key):=fun e he=>by
     rw [← List.take_append_drop (findN L d.key) L] at he;simp only [List.mem_append,List.mem_singleton] at he ⊢;rcases he with he | he
     ·exact .inl (.inl he)
     ·exact .inr he
    exact⟨hM,fun e he _=>val_mem hM (hmem e he),fun _=>val_mem (e:=⟨d.key,d.val⟩) hM (by simp),fun q=>by omega,fun q=>by omega,fun q=>by omega⟩
  ·rw [hh,if_pos rfl] at hM;rw [if_pos rfl];obtain⟨a,b,_⟩:=set_done h o hh d.val hM;exact⟨hM,a,fun _=>b,fun q=>by omega,fun q=>by omega,fun q=>by omega⟩
 ·rw [if_neg k1] at hk hM ⊢
  cases hh:hasB L d.key
  ·rw [hh,if_pos rfl] at hk;simp at hk
  ·rw [hh,if_neg (by simp)] at hk hM;rw [if_neg (by simp)];obtain⟨hn,ek⟩:=has_at hh;by_cases k2:d.kind=2
   ·rw [if_pos k2] at hM ⊢;refine⟨hM,fun e he hne=>val_mem hM ?_,fun q=>by omega,fun _=>⟨val_none (fun e he=>?_),by simp;omega⟩,fun q=>by omega,fun q=>by omega⟩
    ·obtain⟨i,hi,rfl⟩:=List.getElem_of_mem he;have hin:i≠findN L d.key:=fun q=>hne (by subst q;exact ek)
     rw [List.mem_append];rcases Nat.lt_or_gt_of_ne hin with q | q
     ·refine .inl (List.mem_iff_getElem.2 ⟨i,by simp;omega,by simp⟩)
     ·refine .inr (List.mem_iff_getElem.2 ⟨i-(findN L d.key+1),by simp;omega,?_⟩);simp only [List.getElem_drop];congr 1;omega
    ·rw [List.mem_append] at he;rcases he with he | he
     ·intro q;have:=take_lt e he;rw [q,lt_irr] at this;exact Bool.noConfusion this
     ·obtain⟨i,hi,rfl⟩:=List.getElem_of_mem he;simp only [List.getElem_drop];have hl:findN L d.key+1+i<L.length:=by simp at hi;omega
      have:=(List.pairwise_iff_getElem.1 hr) (findN L d.key) (findN L d.key+1+i) (by simpa using hn) (by simpa using hl) (by omega)
      simp only [List.getElem_map] at this;intro q;rw [q,ek,lt_irr] at this;exact Bool.noConfusion this
   ·rw [if_neg k2] at hk hM ⊢;by_cases k3:d.kind=3
    ·rw [if_pos k3] at hk hM ⊢;by_cases h9:(atE L (findN L d.key)).val+d.val > 9999
     ·rw [if_pos h9] at hk;simp at hk
     ·rw [if_neg h9] at hM ⊢;obtain⟨a,b,c⟩:=set_done h o hh ((atE L (findN L d.key)).val+d.val) hM;exact⟨hM,a,fun q=>by omega,fun q=>by omega,fun _=>by rw [b,c],fun q=>by omega⟩
    ·rw [if_neg k3] at hk hM ⊢;by_cases h9:(atE L (findN L d.key)).val≠d.val
     ·rw [if_pos h9] at hk;simp at hk
     ·rw [if_neg h9] at hM ⊢;obtain⟨a,b,c⟩:=set_done h o hh d.new hM;exact⟨hM,a,fun q=>by omega,fun q=>by omega,fun q=>by omega,fun _=>⟨by rw [c];exact Classical.not_not.1 h9,by rw [b]⟩⟩
theorem do_same{L:List En}{d:D}(hk:(doB L d).2≠0):(doB L d).1=L:=by
 unfold doB doC at hk ⊢;split
 ·rename_i q;rw [if_pos q] at hk;split
  ·rename_i q2;rw [if_pos q2] at hk;simp at hk
  ·rename_i q2;rw [if_neg q2] at hk;split
   ·rfl
   ·rename_i q3;rw [if_neg q3] at hk;simp at hk
 ·rename_i q;rw [if_neg q] at hk;split
  ·rfl
  ·rename_i q2;rw [if_neg q2] at hk;split
   ·rename_i q3;rw [if_pos q3] at hk;simp at hk
   ·rename_i q3;rw [if_neg q3] at hk;split
    ·rename_i q4;rw [if_pos q4] at hk;split
     ·rfl
     ·rename_i q5;rw [if_neg q5] at hk;simp at hk
    ·rename_i q4;rw [if_neg q4] at hk;split
     ·rfl
     ·rename_i q5;rw [if_neg q5] at hk;simp at hk
theorem do_code{L:List En}{d:D}:(doB L d).2≠4:=by
 unfold doB doC;split
 ·split
  ·simp
  ·split <;> simp
 ·split
  ·simp
  ·split
   ·simp
   ·split
    ·split <;> simp
    ·split <;> simp
end Bk
namespace Bk
open Cur (At)
open De (D okD)
def DoneOk(R:List En × Int)(w:World)(e:Ending)(w':World):Prop:=∃ao ca,e=.returned (.tuple #[.slice ao R.1.length ca,.int .i64 R.2])∧CpE w.heap.size w'.heap.size w' ao R.1∧(ao=none→ca=0)∧Below w.heap.size w w'
def ImplDone(T:World→Prop):Prop:=∀(ao:Option Addr) (cap:Nat) (L:List En) (d:D) (W:World),L.length≤1048576→(∀e∈L,e.key.size≤1073741824)→d.key.size≤1073741824→T W→RdE W ao L→(ao=none→cap=0)→Calls Try.prog 9 #[.slice ao L.length cap,.agg #[.int .i64 d.kind,.string d.key,.int .i64 d.val,.int .i64 d.new]] W (DoneOk (doneB L d) W)
def ImplBookOk(T:World→Prop):Prop:=∀(ao:Option Addr) (cap:Nat) (L:List En) (W:World),L.length≤1048576→(∀e∈L,e.key.size≤1073741824)→T W→RdE W ao L→Calls Try.prog 14 #[.slice ao L.length cap] W fun e w'=>e=.returned (.bool (okBook L))∧Below W.heap.size W w'
def ImplValueOf(T:World→Prop):Prop:=∀(ao:Option Addr) (cap:Nat) (L:List En) (key:ByteArray) (W:World),L.length≤1048576→(∀e∈L,e.key.size≤1073741824)→key.size≤1073741824→T W→RdE W ao L→Calls Try.prog 11 #[.slice ao L.length cap,.string key] W fun e w'=>e=.returned (.tuple #[.int .i64 (valB L key).1,.bool (valB L key).2])∧Below W.heap.size W w'
theorem cellB_keep{w w':World}{a:Addr}{v:Value}(hb:Below w.heap.size w w')(h:w.cell? a=some v):w'.cell? a=some v:=(hb.cell (block_lt_of_cell h)).trans h
structure FbSt(w V:World)(g:Nat)(L:List En)(ao:Option Addr)(M:List En)(x:Nat)(k:Int)(s:ByteArray)(v n:Int):Prop where
 be:Below w.heap.size w V
 rl:RdE V (some ⟨g,0,none⟩) L
 rm:RdE V ao M
 k0:V.cell? ⟨x,0,none⟩=some (.int .i64 k)
 k1:V.cell? ⟨x,1,none⟩=some (.string s)
 k2:V.cell? ⟨x,2,none⟩=some (.int .i64 v)
 k3:V.cell? ⟨x,3,none⟩=some (.int .i64 n)
theorem FbSt.below{w V V':World}{g:Nat}{L:List En}{ao:Option Addr}{M:List En}{x:Nat}{k:Int}{s:ByteArray}{v n:Int}(h:FbSt w V g L ao M x k s v n)(hb:Below V.heap.size V V'):FbSt w V' g L ao M x k s v n:=
 ⟨h.be.trans (hb.mono h.be.size),h.rl.below hb,h.rm.below hb,cellB_keep hb h.k0,cellB_keep hb h.k1,cellB_keep hb h.k2,cellB_keep hb h.k3⟩
theorem enB_keys{L:List En}(h:∀f∈L,EnB f):∀e∈L,e.key.size≤1073741824:=fun e he=>by have:=(h e he).1;omega
theorem val_bd{L:List En}{key:ByteArray}(h:okBook L=true):0≤(valB L key).1∧(valB L key).1≤9999:=by
 unfold valB
 cases hh:hasB L key
 ·show(0:Int)≤0∧(0:Int)≤9999;decide
 ·obtain⟨hn,_⟩:=has_at hh;have:=((okBook_iff L).1 h).2.1 _ (List.getElem_mem hn);rw [h,atE_get L _ hn];exact this.2
theorem okBook_keys'{L:List En}(h:okBook L=true):∀e∈L,e.key.size≤1073741824:=fun e he=>by
 have hk:=(((okBook_iff L).1 h).2.1 e he).1;unfold De.keyB at hk;simp at hk;omega
theorem booksWalk(T:World→Prop)(hT:∀W V,T W→Below W.heap.size W V→T V)(ID:ImplDone T)(IB:ImplBookOk T)(IV:ImplValueOf T)(a0:Option Addr)(len0 cap0:Nat)(w:World)(hcode:Cur.Code w a0 len0)(t:T w) :
  Calls Try.prog 3 #[.slice a0 len0 cap0] w fun e w'=>e=.returned (.bool true)∧Below w.heap.size w w':=by
 by_cases hbig:4096<len0
 ·have hb':(4096:Int)<(len0:Int):=by omega
  go_enter Try.func3,Try.ntmps3
  go_wp2_with (first | (go_at_call 7;go_in) | fail)
  go_ret;exact⟨rfl,Below.refl _ _⟩
 ·have hb':¬ (4096:Int)<(len0:Int):=by omega
  have hle0:len0≤4096:=by omega
  clear hbig;have HT:Hid (∀V,Below w.heap.size w V→T V):=fun V hV=>hT w V t hV
  have HC:Hid (Cur.Code w a0 len0):=hcode;have HID:Hid (ImplDone T):=ID;have HIB:Hid (ImplBookOk T):=IB;have HIV:Hid (ImplValueOf T):=IV;clear t hcode hT ID IB IV;go_enter Try.func3,Try.ntmps3
  go_wp2_with (first | (go_at_call 7;go_in) | fail)
  refine(drawDone a0 len0 cap0 _ hle0 HC.out).mono ?_;rintro e w1 ⟨g,cb,L,k,s,v,n,rfl,hL10,hEB,ho,hs4,b1⟩;have HEB:Hid (∀f∈L,EnB f):=hEB;have HKL:Hid (∀e∈L,e.key.size≤1073741824):=enB_keys hEB;have HS1:Hid (FbSt w (w1.alloc (.cells #[.int .i64 k,.string s,.int .i64 v,.int .i64 n] 26)) g L none [] w1.heap.size k s v n):=by
   have ba:=(Below.refl w1.heap.size w1).alloc (Nat.le_refl _) (.cells #[.int .i64 k,.string s,.int .i64 v,.int .i64 n] 26);exact⟨b1.trans (ba.mono b1.size),ho.rd.below ba,.inl rfl,by simp,by simp,by simp,by simp⟩
  clear b1 ho hEB;dsimp only;go_upto_region 4 with fail
  generalize w1.alloc (.cells #[.int .i64 k,.string s,.int .i64 v,.int .i64 n] 26)=V1 at HS1 ⊢;generalize w1.heap.size=x at HS1 ⊢;obtain⟨_,_,_,k0,k1,k2,k3⟩:=HS1.out;go_wp2_with fail
  refine(HID.out (some ⟨g,0,none⟩) cb L ⟨k,s,v,n⟩ V1 (by omega) HKL.out (by show s.size≤_;omega) (HT.out V1 HS1.out.be) HS1.out.rl (fun e=>by cases e)).mono ?_;rintro e V2 ⟨ao,ca,rfl,hcp,hca,b2⟩;have HS2:Hid (FbSt w V2 g L ao (doneB L ⟨k,s,v,n⟩).1 x k s v n):=⟨HS1.out.be.trans (b2.mono HS1.out.be.size),HS1.out.rl.below b2,hcp.rd,cellB_keep b2 k0,cellB_keep b2 k1,cellB_keep b2 k2,cellB_keep b2 k3⟩
  clear hcp b2 HS1 k0 k1 k2 k3 HID hca;have HML:Hid ((doneB L ⟨k,s,v,n⟩).1.length≤11):=by
   show _≤_;unfold doneB;split
   ·have:=doB_len (L:=L) (d:=⟨k,s,v,n⟩);omega
   ·simp
  have HMK:Hid (∀e∈(doneB L ⟨k,s,v,n⟩).1,e.key.size≤1073741824):=by
   show ∀e∈_,_;unfold doneB
   cases h1:okBook L
   ·simp
   ·cases h2:okD ⟨k,s,v,n⟩
    ·simp
    ·exact okBook_keys' (do_ok h1 h2)
  have HD4:Hid ((doneB L ⟨k,s,v,n⟩).2=4→(doneB L ⟨k,s,v,n⟩).1.length=0):=by
   show _→_;unfold doneB;split
   ·intro h;exact absurd h do_code
   ·intro _;rfl
  have HDS:Hid ((doneB L ⟨k,s,v,n⟩).2≠4→(doneB L ⟨k,s,v,n⟩).2≠0→(doneB L ⟨k,s,v,n⟩).1=L):=by
   show _→_→_;unfold doneB;split
   ·intro _ h;exact do_same h
   ·intro h;exact absurd rfl h
  have HD0:Hid ((doneB L ⟨k,s,v,n⟩).2=0→okBook L=true∧okD ⟨k,s,v,n⟩=true∧Done L (doneB L ⟨k,s,v,n⟩).1 ⟨k,s,v,n⟩):=by
   show _→_;unfold doneB
   cases h1:okBook L
   ·intro h;simp at h
   ·cases h2:okD ⟨k,s,v,n⟩
    ·intro h;simp at h
    ·intro h;exact⟨rfl,rfl,do_done h1 h2 h⟩
  go_wp2_with fail
  refine(drawValueOf a0 len0 cap0 _ hle0 (De.code_below HC.out HS2.out.be)).mono ?_;rintro e V3 ⟨gq,cq,Q,key,rfl,hQ10,hQB,hoq,hk4,b3⟩;have HS3:Hid (FbSt w V3 g L ao (doneB L ⟨k,s,v,n⟩).1 x k s v n):=HS2.out.below b3;have HQ3:Hid (RdE V3 (some ⟨gq,0,none⟩) Q):=hoq.rd;have HKQ:Hid (∀e∈Q,e.key.size≤1073741824):=enB_keys hQB;clear b3 hoq hQB HS2;go_wp2_with fail
  refine(HIV.out (some ⟨gq,0,none⟩) cq Q key V3 (by omega) HKQ.out (by omega) (HT.out V3 HS3.out.be) HQ3.out).mono ?_;rintro e V4 ⟨rfl,b4⟩;have HS4:Hid (FbSt w V4 g L ao (doneB L ⟨k,s,v,n⟩).1 x k s v n):=HS3.out.below b4;have HQ4:Hid (RdE V4 (some ⟨gq,0,none⟩) Q):=HQ3.out.below b4;clear b4 HS3 HQ3;obtain⟨_,_,_,k0,k1,k2,k3⟩:=HS4.out;have HDN:=specDone (some ⟨g,0,none⟩) cb L ⟨k,s,v,n⟩ V4 (by omega) (fun e he=>by have:=HKL.out e he;omega) HS4.out.rl (fun e=>by cases e) (by show s.size≤_;omega);generalize hR:doneB L ⟨k,s,v,n⟩=R at *;obtain⟨M,cd⟩:=R;dsimp only at HML HMK HD4 HDS HD0 HS4 ⊢;have HDN2:Hid (_):=HDN;clear HDN hR;go_wp2_with fail
  refine Calls.mono HDN2.out ?_;rintro e V5 ⟨gy,cy,rfl,hoy,b5⟩;have HS5:Hid (FbSt w V5 g L ao M x k s v n):=HS4.out.below b5;have HQ5:Hid (RdE V5 (some ⟨gq,0,none⟩) Q):=HQ4.out.below b5;have HY5:Hid (RdE V5 (some ⟨gy,0,none⟩) M):=hoy.rd;have hml:=HML.out;clear b5 hoy HS4 HQ4 k0 k1 k2 k3 HDN2;dsimp only;go_wp2_with fail
  refine(likeBook ao (some ⟨gy,0,none⟩) ca cy M V5 (by omega) HS5.out.rm HY5.out).mono ?_;rintro e V6 ⟨rfl,b6⟩;have HS6:Hid (FbSt w V6 g L ao M x k s v n):=HS5.out.below b6;have HQ6:Hid (RdE V6 (some ⟨gq,0,none⟩) Q):=HQ5.out.below b6;clear b6 HS5 HQ5 HY5;go_wp2_with fail
  refine(HIB.out (some ⟨g,0,none⟩) cb L V6 (by omega) HKL.out (HT.out V6 HS6.out.be) HS6.out.rl).mono ?_;rintro e V7 ⟨rfl,b7⟩;have HS7:Hid (FbSt w V7 g L ao M x k s v n):=HS6.out.below b7;have HQ7:Hid (RdE V7 (some ⟨gq,0,none⟩) Q):=HQ6.out.below b7;clear b7 HS6 HQ6;go_wp2_with fail
  refine(specBookOk (some ⟨g,0,none⟩) cb L V7 (by omega) (fun e he=>by have:=HKL.out e he;omega) HS7.out.rl).mono ?_;rintro e V8 ⟨rfl,b8⟩;have HS8:Hid (FbSt w V8 g L ao M x k s v n):=HS7.out.below b8;have HQ8:Hid (RdE V8 (some ⟨gq,0,none⟩) Q):=HQ7.out.below b8;clear b8 HS7 HQ7;go_wp2_with fail
  refine(specValueOf (some ⟨gq,0,none⟩) cq Q key V8 (by omega) (fun e he=>by have:=HKQ.out e he;omega) HQ8.out).mono ?_;rintro e V9 ⟨rfl,b9⟩;have HS9:Hid (FbSt w V9 g L ao M x k s v n):=HS8.out.below b9;clear b9 HS8 HQ8;by_cases c4:cd=4
  ·subst c4;have hm0:=HD4.out rfl;have hm0':((M.length:Int) == 0)=true:=by simp [hm0]
   clear HIB HIV HML HMK HD4 HDS HD0 hm0;go_wp2;go_ret;exact⟨rfl,HS9.out.be⟩
  ·have kb4:(cd == 4)=false:=by simpa using c4
   by_cases c0:cd=0
   ·subst c0;obtain⟨hok,hod,hdn⟩:=HD0.out rfl;have HDN:Hid (Done L M ⟨k,s,v,n⟩):=hdn;have odn:=(De.okD_iff _).1 hod;have ok1:1≤k:=odn.k1;have ok4:k≤4:=odn.k4;have ov0:0≤v:=odn.v0;have ov1:v≤99:=odn.v1;have HVB:Hid (0≤(valB L s).1∧(valB L s).1≤9999):=val_bd hok;have HKL2:Hid (∀e∈L,e.key.size≤1099511627776):=fun e he=>by have:=HKL.out e he;omega
    clear HD4 HDS HD0 hdn odn hod kb4;go_wp2_with fail
    go_loopw [15] (fun iv wr=>∃j:Nat,j≤L.length∧iv=.int .i64 (j:Int)∧Hid (FbSt w wr g L ao M x k s v n)) (fun iv _=>L.length-(intOf iv).toNat)
    case atStart=>exact⟨0,by omega,rfl,HS9⟩
    case round=>
     clear HS9;obtain⟨j,hj,rfl,HS⟩:=hrel;by_cases hlt:j<L.length
     ·obtain⟨_,c0,c1⟩:=HS.out.rl.on j hlt;rw [Nat.zero_add] at c0 c1;have hmj:=atE_mem L j hlt;have hks:=HKL.out _ hmj;have HVO:=HIV.out ao ca M (atE L j).key wr (by have:=HML.out;omega) HMK.out hks (HT.out wr HS.out.be) HS.out.rm;have HVV:Hid (_):=HVO;clear HVO;by_cases hsame:(atE L j).key=s
      ·have hne:((atE L j).key.toList == s.toList)=true:=by rw [hsame];simp
       clear hsame hmj;go_wp2_with fail
       refine Calls.mono HVV.out ?_;rintro e W1 ⟨rfl,b1⟩;have HS1:Hid (FbSt w W1 g L ao M x k s v n):=HS.out.below b1;obtain⟨X,_,F,HF,HG⟩:=Fam.fam W1;have HFS:Hid (∀z,FbSt w (F z) g L ao M x k s v n):=fun z=>HS1.out.below (HF.out z)
       have d0:∀z,(F z).cell? ⟨g,j*2,none⟩=some (.string (atE L j).key):=fun z=>by
        have:=((HFS.out z).rl.on j hlt).2.c0;rwa [Nat.zero_add] at this
       have d1:∀z,(F z).cell? ⟨g,j*2+1,none⟩=some (.int .i64 (atE L j).val):=fun z=>by
        have:=((HFS.out z).rl.on j hlt).2.c1;rwa [Nat.zero_add] at this
       have kk1:∀z,(F z).cell? ⟨x,1,none⟩=some (.string s):=fun z=>(HFS.out z).k1
       clear b1 HS HVV c0 c1;generalize (atE L j).key=kj at *;generalize (atE L j).val=vj at *;generalize valB M kj=vb at *;go_upto_region 21 with fail
       refine Fam.region (F:=F) (by kernel_rfl) (by kernel_rfl) (HG.out _ (Below.refl _ W1).drew) ?_
       repeat (go_big_quiet_step (fail))
       refine wpQuiet_nil ?_;intro W2 hW2;obtain⟨z,rfl⟩:=hW2;have HSD:Hid (FbSt w (F z) g L ao M x k s v n):=HFS.out z;clear d0 d1 kk1 HFS HS1;go_wp2;go_roundw
       case rel=>exact⟨j+1,by omega,by go_num,HSD⟩
       case measure=>simp [intOf];omega
      ·have hne:((atE L j).key.toList == s.toList)=false:=by
        rw [beq_eq_false_iff_ne];intro q;exact hsame ((same_iff _ _).1 (by unfold same;rw [q];simp))
       have hvk:=HDN.out.keep _ hmj hsame;have HVV2:Hid (Calls Try.prog 11 #[.slice ao M.length ca,.string (atE L j).key] wr fun e w'=>e=.returned (.tuple #[.int .i64 (atE L j).val,.bool true])∧Below wr.heap.size wr w'):=by
        have:=HVV.out;rw [hvk] at this;exact this
       clear hsame hmj hvk HVV;go_wp2_with fail
       refine Calls.mono HVV2.out ?_;rintro e W1 ⟨rfl,b1⟩;have HS1:Hid (FbSt w W1 g L ao M x k s v n):=HS.out.below b1;obtain⟨X,_,F,HF,HG⟩:=Fam.fam W1;have HFS:Hid (∀z,FbSt w (F z) g L ao M x k s v n):=fun z=>HS1.out.below (HF.out z)
       have d0:∀z,(F z).cell? ⟨g,j*2,none⟩=some (.string (atE L j).key):=fun z=>by
        have:=((HFS.out z).rl.on j hlt).2.c0;rwa [Nat.zero_add] at this
       have d1:∀z,(F z).cell? ⟨g,j*2+1,none⟩=some (.int .i64 (atE L j).val):=fun z=>by
        have:=((HFS.out z).rl.on j hlt).2.c1;rwa [Nat.zero_add] at this
       have kk1:∀z,(F z).cell? ⟨x,1,none⟩=some (.string s):=fun z=>(HFS.out z).k1
       clear b1 HS HVV2 c0 c1;generalize (atE L j).key=kj at *;generalize (atE L j).val=vj at *;go_upto_region 21 with fail
       refine Fam.region (F:=F) (by kernel_rfl) (by kernel_rfl) (HG.out _ (Below.refl _ W1).drew) ?_
       repeat (go_big_quiet_step (fail))
       refine wpQuiet_nil ?_;intro W2 hW2;obtain⟨z,rfl⟩:=hW2;have HSD:Hid (FbSt w (F z) g L ao M x k s v n):=HFS.out z;clear d0 d1 kk1 HFS HS1;go_wp2;go_roundw
       case rel=>exact⟨j+1,by omega,by go_num,HSD⟩
       case measure=>simp [intOf];omega
     ·obtain rfl:j=L.length:=by omega
      obtain⟨_,_,_,k0,k1,k2,k3⟩:=HS.out;go_wp2_with fail
      refine(specValueOf (some ⟨g,0,none⟩) cb L s wr (by omega) HKL2.out HS.out.rl).mono ?_;rintro e W1 ⟨rfl,b1⟩;have HS1:Hid (FbSt w W1 g L ao M x k s v n):=HS.out.below b1;clear b1 HS k0 k1 k2 k3;obtain⟨_,_,_,k0,k1,k2,k3⟩:=HS1.out;have HVV:Hid (_):=HIV.out ao ca M s W1 (by have:=HML.out;omega) HMK.out (by omega) (HT.out W1 HS1.out.be) HS1.out.rm;go_wp2_with fail
      refine Calls.mono HVV.out ?_;rintro e W2 ⟨rfl,b2⟩;have HS2:Hid (FbSt w W2 g L ao M x k s v n):=HS1.out.below b2;clear b2 HS1 HVV k0 k1 k2 k3;obtain⟨_,_,_,k0,k1,k2,k3⟩:=HS2.out;have HBK:Hid (Calls Try.prog 14 #[.slice ao M.length ca] W2 fun e w'=>e=.returned (.bool true)∧Below W2.heap.size W2 w'):=by
       have:=HIB.out ao ca M W2 (by have:=HML.out;omega) HMK.out (HT.out W2 HS2.out.be) HS2.out.rm;rw [HDN.out.ok] at this;exact this
      have hvb:=HVB.out;have HP1:Hid (k=1→valB M s=(v,true)):=fun q=>HDN.out.put q
      have HP2:Hid (k=2→valB M s=(0,false)∧M.length+1=L.length):=fun q=>HDN.out.cut q
      have HP3:Hid (k=3→(valB M s).1=(valB L s).1+v):=fun q=>HDN.out.add q
      have HP4:Hid (k=4→(valB L s).1=v∧(valB M s).1=n):=fun q=>HDN.out.iff q
      clear HDN HVB HKL2 HIV HIB HMK HT HKL HEB HKQ HC;generalize valB M s=vm at *;generalize valB L s=vl at *;obtain⟨vm1,vm2⟩:=vm;obtain⟨vl1,vl2⟩:=vl;dsimp only at hvb HP3 HP4 ⊢;rcases(show k=1∨k=2∨k=3∨k=4 by omega) with rfl | rfl | rfl | rfl
      ·have h:=HP1.out rfl;injection h with h1 h2;subst h1 h2;clear HP1 HP2 HP3 HP4;go_wp2_with fail
       refine Calls.mono HBK.out ?_;rintro e W3 ⟨rfl,b3⟩;have HS3:Hid (FbSt w W3 g L ao M x 1 s vm1 n):=HS2.out.below b3;have z2:=HS3.out.k2;clear b3 HS2 HBK k0 k1 k2 k3;go_wp2;go_ret;exact⟨by simp,HS3.out.be⟩
      ·obtain⟨h,hml2⟩:=HP2.out rfl;injection h with h1 h2;subst h1 h2;have hmI:((M.length:Int) == (L.length:Int)-1)=true:=by simp;omega
       have hwr:IntKind.i64.wrap ((L.length:Int)-1)=(L.length:Int)-1:=by rw [IntKind.wrap_i64];omega
       clear HP1 HP2 HP3 HP4;go_wp2_with fail
       refine Calls.mono HBK.out ?_;rintro e W3 ⟨rfl,b3⟩;have HS3:Hid (FbSt w W3 g L ao M x 2 s v n):=HS2.out.below b3;clear b3 HS2 HBK k0 k1 k2 k3;go_wp2;go_ret;exact⟨rfl,HS3.out.be⟩
      ·have h:=HP3.out rfl;subst h;clear HP1 HP2 HP3 HP4;go_wp2_with fail
       refine Calls.mono HBK.out ?_;rintro e W3 ⟨rfl,b3⟩;have HS3:Hid (FbSt w W3 g L ao M x 3 s v n):=HS2.out.below b3;have z2:=HS3.out.k2;clear b3 HS2 HBK k0 k1 k2 k3;go_wp2;go_ret;exact⟨by simp,HS3.out.be⟩
      ·obtain⟨h1,h2⟩:=HP4.out rfl;subst h1 h2;clear HP1 HP2 HP3 HP4;go_wp2_with fail
       refine Calls.mono HBK.out ?_;rintro e W3 ⟨rfl,b3⟩;have HS3:Hid (FbSt w W3 g L ao M x 4 s vl1 vm1):=HS2.out.below b3;have z2:=HS3.out.k2;have z3:=HS3.out.k3;clear b3 HS2 HBK k0 k1 k2 k3;go_wp2;go_ret;exact⟨by simp,HS3.out.be⟩
   ·have kb0:(cd != 0)=true:=by simpa using c0
    obtain rfl:=HDS.out c4 c0;go_wp2_with fail
    refine(likeBook ao (some ⟨g,0,none⟩) ca cb M V9 (by omega) HS9.out.rm HS9.out.rl).mono ?_;rintro e W1 ⟨rfl,b1⟩;have HB1:Hid (Below w.heap.size w W1):=HS9.out.be.trans (b1.mono HS9.out.be.size);clear b1 HS9 HD4 HDS HD0 HML HMK;go_wp2;go_ret;exact⟨rfl,HB1.out⟩
end Bk
end
section
open Go.RowKit Go.Shelf
namespace Bk
open De (D okD keyB)
theorem okBook_rises{L:List En}(h:okBook L=true):Rises L:=((okBook_iff L).1 h).2.2
theorem done{B g c:Nat}{L:List En}{w:World}(d:D)(hB:B≤w.heap.size)(h:OwE B w g c L)(hb:okBook L=true)(ho:okD d=true) :
  Calls Try.prog 32 #[.slice (some ⟨g,0,none⟩) L.length c,.agg #[.int .i64 d.kind,.string d.key,.int .i64 d.val,.int .i64 d.new]] w (ActPost B g (doB L d) w):=by
 have od:=(De.okD_iff d).1 ho;have h8:=(okBook_parts hb).1;have hv:=okBook_vals hb;have hs:=okBook_rises hb;have a1:=od.v0;have a2:=od.v1;have a3:=od.n0;have a4:=od.n1;have a5:=od.k1;have a6:=od.k4;have hlt:hasB L d.key=true→findN L d.key<L.length:=fun q=>(has_at q).1
 have hle:=findN_le L d.key;have hval:∀x:Int,0≤x→x≤9999→valOk x=true:=fun x h1 h2=>by unfold valOk;simp [h1,h2]
 rcases(show d.kind=1∨d.kind=2∨d.kind=3∨d.kind=4 by omega) with hk | hk | hk | hk
 ·have e:wayF d.kind=(53,54):=by rw [hk];rfl
  refine doneF (f1:=53) (f2:=54) d h hs (by omega) (enters_of Try.func53 (by kernel_rfl) rfl) (enters_of Try.func54 (by kernel_rfl) rfl) (fun W=>by have:=wayOf d.kind ⟨a5,a6⟩ W;rwa [e] at this) (fun q V hV=>?_) (fun q V hV=>?_)
  ·have eq:doB L d=giveB L (findN L d.key) d.val:=by unfold doB doC giveB;rw [if_pos hk,if_pos q,hval _ a1 (by omega)];rfl
   rw [eq];exact(actRewrite (h.below hV) (findN L d.key) d (hlt q)).mono fun e w' r=>r.behind hV
  ·have eq:doB L d=enterB L (findN L d.key) d.key d.val:=by
    unfold doB doC enterB;rw [if_pos hk,q,if_neg (by simp)];by_cases hl:L.length=8
    ·rw [if_pos hl,if_pos (by omega)]
    ·rw [if_neg hl,if_neg (by omega)]
   rw [eq];exact(actEnter (h.below hV) (findN L d.key) d (Nat.le_trans hB hV.size) hle).mono fun e w' r=>r.behind hV
 ·have e:wayF d.kind=(55,56):=by rw [hk];rfl
  refine doneF (f1:=55) (f2:=56) d h hs (by omega) (enters_of Try.func55 (by kernel_rfl) rfl) (enters_of Try.func56 (by kernel_rfl) rfl) (fun W=>by have:=wayOf d.kind ⟨a5,a6⟩ W;rwa [e] at this) (fun q V hV=>?_) (fun q V hV=>?_)
  ·have eq:doB L d=(L.take (findN L d.key)++L.drop (findN L d.key+1),0):=by unfold doB doC;rw [if_neg (by omega),if_neg (by rw [q];simp),if_pos hk]
   rw [eq];exact(actCut (h.below hV) (findN L d.key) d (hlt q) (by omega)).mono fun e w' r=>r.behind hV
  ·have eq:doB L d=(L,1):=by unfold doB doC;rw [if_neg (by omega),if_pos q]
   rw [eq];exact(actNone (h.below hV) (findN L d.key) d).mono fun e w' r=>r.behind hV
 ·have e:wayF d.kind=(57,56):=by rw [hk];rfl
  refine doneF (f1:=57) (f2:=56) d h hs (by omega) (enters_of Try.func57 (by kernel_rfl) rfl) (enters_of Try.func56 (by kernel_rfl) rfl) (fun W=>by have:=wayOf d.kind ⟨a5,a6⟩ W;rwa [e] at this) (fun q V hV=>?_) (fun q V hV=>?_)
  ·have hv0:=((okBook_parts hb).2 _ (hlt q)).2.1;have eq:doB L d=giveB L (findN L d.key) ((atE L (findN L d.key)).val+d.val):=by
    unfold doB doC giveB;rw [if_neg (by omega),if_neg (by rw [q];simp),if_neg (by omega),if_pos hk];by_cases h9:(atE L (findN L d.key)).val+d.val > 9999
    ·rw [if_pos h9,if_neg (by unfold valOk;simp;omega)]
    ·rw [if_neg h9,hval _ (by omega) (by omega)];rfl
   rw [eq];exact(actAdd (h.below hV) (findN L d.key) d (hlt q) (hv _ (atE_mem L _ (hlt q))) ⟨a1,a2⟩).mono fun e w' r=>r.behind hV
  ·have eq:doB L d=(L,1):=by unfold doB doC;rw [if_neg (by omega),if_pos q]
   rw [eq];exact(actNone (h.below hV) (findN L d.key) d).mono fun e w' r=>r.behind hV
 ·have e:wayF d.kind=(58,56):=by rw [hk];rfl
  refine doneF (f1:=58) (f2:=56) d h hs (by omega) (enters_of Try.func58 (by kernel_rfl) rfl) (enters_of Try.func56 (by kernel_rfl) rfl) (fun W=>by have:=wayOf d.kind ⟨a5,a6⟩ W;rwa [e] at this) (fun q V hV=>?_) (fun q V hV=>?_)
  ·have eq:doB L d=swapB L (findN L d.key) d.val d.new:=by
    unfold doB doC swapB giveB;rw [if_neg (by omega),if_neg (by rw [q];simp),if_neg (by omega),if_neg (by omega)];by_cases h9:(atE L (findN L d.key)).val≠d.val
    ·rw [if_pos h9,if_pos h9]
    ·rw [if_neg h9,if_neg h9,hval _ a3 (by omega)];rfl
   rw [eq];exact(actSwap (h.below hV) (findN L d.key) d (hlt q)).mono fun e w' r=>r.behind hV
  ·have eq:doB L d=(L,1):=by unfold doB doC;rw [if_neg (by omega),if_pos q]
   rw [eq];exact(actNone (h.below hV) (findN L d.key) d).mono fun e w' r=>r.behind hV
theorem implBookOk(T:World→Prop):ImplBookOk T:=by
 intro ao cap L W hl hk t hr;have H:Hid (Calls Try.prog 30 #[.slice ao L.length cap] W fun e w'=>(∃v,e=.returned (.tuple #[v,.bool (okBook L)]))∧Below W.heap.size W w'):=(bookOf ao cap L W (by omega) (fun e he=>by have:=hk e he;omega) hr).mono fun e w' q=>by
  obtain⟨hb,⟨ho,he⟩ | ⟨ho,g,c,he,_⟩⟩:=q
  ·exact⟨⟨_,by rw [he,ho]⟩,hb⟩
  ·exact⟨⟨_,by rw [he,ho]⟩,hb⟩
 clear hk hr t;generalize okBook L=b at H ⊢;go_enter Try.func14,Try.ntmps14
 go_wp2_with (go_at_call 30;refine Calls.mono H.out ?_;rintro e w1 ⟨⟨v,rfl⟩,b1⟩)
 go_ret;exact⟨rfl,b1⟩
theorem implValueOf(T:World→Prop):ImplValueOf T:=by
 intro ao cap L key W hl hk hks t hr;have H:Hid (Calls Try.prog 30 #[.slice ao L.length cap] W (LookPost L W)):=bookOf ao cap L W (by omega) (fun e he=>by have:=hk e he;omega) hr;have HV:Hid (valB L key=if hasB L key&&okBook L then ((atE L (findN L key)).val,true) else (0,false)):=rfl;clear hk hr t;generalize valB L key=R at HV ⊢;go_enter Try.func11,Try.ntmps11
 go_wp2_with (go_at_call 30;refine Calls.mono H.out ?_;rintro e w1 ⟨b1,⟨ho,rfl⟩ | ⟨ho,g,c,rfl,hown⟩⟩)
 ·have HR:Hid (R=(0,false)):=by show _=_;rw [HV.out,ho,Bool.and_false];rfl
  have HB:Hid (Below W.heap.size W w1):=b1;have HP:Hid (_):=place none 0 [] key w1 (by simp) (.inl rfl) .nil;have e1:findN [] key=0:=rfl;have e2:hasB [] key=false:=rfl;rw [e1,e2,List.length_nil] at HP;clear ho b1 HV H;go_wp2_with (go_at_call 33;refine Calls.mono HP.out ?_;rintro e w2 ⟨rfl,b2⟩)
  go_ret2
  rw [HR.out];exact⟨rfl,HB.out.trans (b2.mono HB.out.size)⟩
 ·have HB:Hid (Below W.heap.size W w1):=b1;have HP:Hid (_):=place (some ⟨g,0,none⟩) c L key w1 (by omega) hown.rd (okBook_rises ho);have HV2:Hid (R=if hasB L key then ((atE L (findN L key)).val,true) else (0,false)):=by show _=_;rw [HV.out,ho,Bool.and_true]
  have HC:Hid (hasB L key=true→findN L key<L.length∧∀V,Below w1.heap.size w1 V→CellsE V g (findN L key*2) (atE L (findN L key))):=fun q=>by
   have hn:=(has_at q).1;refine⟨hn,fun V hV=>?_⟩;have:=((hown.rd.below hV).on (findN L key) hn).2;rwa [Nat.zero_add] at this
  clear ho b1 HV H hown;generalize findN L key=n at HP HV2 HC;generalize hasB L key=is at HP HV2 HC
  cases is
  ·have HR:Hid (R=(0,false)):=HV2.out;clear HV2 HC;go_wp2_with (go_at_call 33;refine Calls.mono HP.out ?_;rintro e w2 ⟨rfl,b2⟩)
   go_ret2
   rw [HR.out];exact⟨rfl,HB.out.trans (b2.mono HB.out.size)⟩
  ·have HR:Hid (R=((atE L n).val,true)):=HV2.out;obtain⟨hn,HC⟩:=HC.out rfl;have HC:Hid (_):=HC;clear HV2;go_wp2_with (go_at_call 33;refine Calls.mono HP.out ?_;rintro e w2 ⟨rfl,b2⟩;obtain⟨c0,c1⟩:=HC.out w2 b2)
   go_ret2
   rw [HR.out];exact⟨rfl,HB.out.trans (b2.mono HB.out.size)⟩
theorem implDone(T:World→Prop):ImplDone T:=by
 intro ao cap L d W hl hk hdk t hr hcap;have HD:Hid (doneB L d=if okBook L&&okD d then doB L d else ([],4)):=rfl;have H:Hid (∀V:World,Below W.heap.size W V→Calls Try.prog 30 #[.slice ao L.length cap] V (LookPost L V)):=fun V hV=>bookOf ao cap L V (by omega) (fun e he=>by have:=hk e he;omega) (hr.below hV)
 have HO:Hid (∀V:World,Calls Try.prog 31 #[.agg #[.int .i64 d.kind,.string d.key,.int .i64 d.val,.int .i64 d.new]] V fun e w'=>e=.returned (.bool (okD d))∧Below V.heap.size V w'):=fun V=>De.implDeedOk d.kind d.key d.val d.new V (by omega)
 have P0:Hid (_):=De.box4 W (.int .i64 d.kind) (.string d.key) (.int .i64 d.val) (.int .i64 d.new) 26;have HN:Hid (∀V:World,(okBook L&&okD d)=false→Below W.heap.size W V→DoneOk (doneB L d) W (.returned (.tuple #[.slice (some ⟨V.heap.size,0,none⟩) 0 0,.int .i64 4])) (V.alloc (.cells #[] 38))):=fun V hn hV=>by
   have e:doneB L d=([],4):=by rw [HD.out,hn];rfl
   rw [e];have hown:=(owE_new V).mono hV.size;exact⟨_,0,rfl,cpE_own hown,fun q=>(by cases q),hV.alloc hV.size _⟩
 clear hk hdk hr hcap t;generalize hR:doneB L d=R at HD HN ⊢;clear hR;go_enter Try.func9,Try.ntmps9
 go_upto_region 1 with fail
 generalize W.alloc (.cells #[.int .i64 d.kind,.string d.key,.int .i64 d.val,.int .i64 d.new] 26)=W0 at P0 ⊢;obtain⟨B0,x0,x1,x2,x3,hlt⟩:=P0;go_wp2_with fail
 refine Calls.mono (H.out W0 B0) ?_;rintro e w1 ⟨b1,⟨ho,rfl⟩ | ⟨ho,g,c,rfl,hown⟩⟩
 · have HF:Hid (_):=HN.out w1 (by rw [ho];rfl) (B0.trans (b1.mono B0.size));clear ho b1 H HO HD HN x0 x1 x2 x3 B0;go_wp2;go_ret2
   exact HF.out
 · have HB1:Hid (Below W.heap.size W w1):=B0.trans (b1.mono B0.size);have y0:=(b1.cell (p:=⟨W.heap.size,0,none⟩) hlt).trans x0;have y1:=(b1.cell (p:=⟨W.heap.size,1,none⟩) hlt).trans x1;have y2:=(b1.cell (p:=⟨W.heap.size,2,none⟩) hlt).trans x2;have y3:=(b1.cell (p:=⟨W.heap.size,3,none⟩) hlt).trans x3;have HY:Hid (∀V:World,Below w1.heap.size w1 V→V.cell? ⟨W.heap.size,0,none⟩=some (.int .i64 d.kind)∧V.cell? ⟨W.heap.size,1,none⟩=some (.string d.key)∧V.cell? ⟨W.heap.size,2,none⟩=some (.int .i64 d.val)∧V.cell? ⟨W.heap.size,3,none⟩=some (.int .i64 d.new)):=fun V hV=>by
     have hl:W.heap.size<w1.heap.size:=Nat.lt_of_lt_of_le hlt b1.size;exact⟨(hV.cell (p:=⟨W.heap.size,0,none⟩) hl).trans y0,(hV.cell (p:=⟨W.heap.size,1,none⟩) hl).trans y1,(hV.cell (p:=⟨W.heap.size,2,none⟩) hl).trans y2,(hV.cell (p:=⟨W.heap.size,3,none⟩) hl).trans y3⟩
   have HOW:Hid (OwE W0.heap.size w1 g c L):=hown;have HB0:Hid (W.heap.size≤W0.heap.size):=B0.size;have HOK:Hid (okBook L=true):=ho;clear ho b1 H x0 x1 x2 x3 B0 hown hlt
   cases hok:okD d
   · have HNF:Hid (∀V:World,Below W.heap.size W V→DoneOk R W (.returned (.tuple #[.slice (some ⟨V.heap.size,0,none⟩) 0 0,.int .i64 4])) (V.alloc (.cells #[] 38))):=fun V hV=>HN.out V (by rw [hok,Bool.and_false]) hV
     rw [hok] at HO;clear HN HD HOW hok;go_wp2_with (go_at_call 31;refine Calls.mono (HO.out _) ?_;rintro e w2 ⟨rfl,b2⟩;have HF:Hid (_):=HNF.out w2 (HB1.out.trans (b2.mono HB1.out.size));clear b2)
     go_ret2
     exact HF.out
   · have HR:Hid (R=doB L d):=by show _=_;rw [HD.out,HOK.out,hok];rfl
     have HA:Hid (∀V:World,Below w1.heap.size w1 V→Calls Try.prog 32 #[.slice (some ⟨g,0,none⟩) L.length c,.agg #[.int .i64 d.kind,.string d.key,.int .i64 d.val,.int .i64 d.new]] V (ActPost W0.heap.size g (doB L d) V)):=fun V hV=>done d (Nat.le_trans (Nat.le_of_lt (by have:=HOW.out.shape;omega)) hV.size) (HOW.out.below hV) HOK.out hok
     rw [hok] at HO;clear HN HD hok;generalize doB L d=M at HR HA;go_wp2_with (first
       | (go_at_call 31;refine Calls.mono (HO.out _) ?_;rintro e w2 ⟨rfl,b2⟩;obtain⟨z0,z1,z2,z3⟩:=HY.out w2 b2)
       | (go_at_call 32;refine Calls.mono (HA.out w2 b2) ?_;rintro e w3 ⟨g',c',rfl,ho3,hg3,hn3⟩
          have HF:Hid (CpE W.heap.size w3.heap.size w3 (some ⟨g',0,none⟩) M.1∧Below W.heap.size W w3):=by
            have hsh:=HOW.out.shape.2.2.1;have hle:=HB0.out;have bb:=HB1.out.trans (b2.mono HB1.out.size);exact⟨cpE_own (ho3.mono hle),bb.grown hg3 bb.size (fun k hk=>by simp at hk;omega)⟩
          clear ho3 hg3 hn3))
     go_ret2
     rw [HR.out];exact⟨some ⟨g',0,none⟩,c',rfl,HF.out.1,fun q=>(by cases q),HF.out.2⟩
end Bk
end
end Go.Proofs.Ytadbafppodhfpaa
