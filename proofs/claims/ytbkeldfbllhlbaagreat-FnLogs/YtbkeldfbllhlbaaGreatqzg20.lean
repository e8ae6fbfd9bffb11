/-
 The library's heap sort, with a comparison that is a bound method: between a and b the row is in order then.
-/
import Derived.Test.YtbkeldfbllhlbaaGreatqzg2
import Derived.Maps.AppendAt
import Derived.Deep.CutBlock
import Derived.Deep.CutRange
set_option linter.unusedVariables false
set_option maxRecDepth 100000
set_option maxHeartbeats 3200000
namespace Go.Proofs.YtbkeldfbllhlbaaGreat
section
namespace So
def swp(l:List Int)(i j:Nat):List Int:=(l.set i (l.getD j 0)).set j (l.getD i 0)
theorem swp_len(l:List Int)(i j:Nat):(swp l i j).length=l.length:=by simp [swp]
theorem swp_get(l:List Int)(i j p:Nat)(hi:i<l.length)(hj:j<l.length):(swp l i j).getD p 0=if p=j then l.getD i 0 else if p=i then l.getD j 0 else l.getD p 0:=by
 unfold swp;simp only [List.getD];by_cases h1:p=j
 ·subst h1;rw [if_pos rfl,List.getElem?_set_self (by simpa using hj)];rfl
 ·rw [if_neg h1,List.getElem?_set_ne (fun e=>h1 e.symm)];by_cases h2:p=i
  ·subst h2;rw [if_pos rfl,List.getElem?_set_self hi];rfl
  ·rw [if_neg h2,List.getElem?_set_ne (fun e=>h2 e.symm)]
theorem getD_at(l:List Int)(i:Nat)(hi:i<l.length):l.getD i 0=l[i]:=by simp [List.getD,List.getElem?_eq_getElem hi]
theorem swp_perm(l:List Int)(i j:Nat)(hi:i<l.length)(hj:j<l.length):(swp l i j).Perm l:=by
 unfold swp;rw [getD_at l i hi,getD_at l j hj];exact List.set_set_perm hi hj
structure Mix(a b:Nat)(l m:List Int):Prop where
 len:m.length=l.length
 out:∀p,p<a∨b≤p→m.getD p 0=l.getD p 0
 perm:m.Perm l
 inn:∀p,a≤p→p<b→∃q,a≤q∧q<b∧m.getD p 0=l.getD q 0
theorem Mix.refl(a b:Nat)(l:List Int):Mix a b l l:=⟨rfl,fun _ _=>rfl,List.Perm.refl _,fun p h1 h2=>⟨p,h1,h2,rfl⟩⟩
theorem Mix.trans{a b:Nat}{l m n:List Int}(h:Mix a b l m)(k:Mix a b m n):Mix a b l n where
 len:=k.len.trans h.len
 out:=fun p hp=>(k.out p hp).trans (h.out p hp)
 perm:=k.perm.trans h.perm
 inn:=fun p h1 h2=>by
  obtain⟨q,q1,q2,e⟩:=k.inn p h1 h2;obtain⟨r,r1,r2,e'⟩:=h.inn q q1 q2;exact⟨r,r1,r2,e.trans e'⟩
theorem Mix.mono{a b a' b':Nat}{l m:List Int}(h:Mix a b l m)(h1:a'≤a)(h2:b≤b'):Mix a' b' l m where
 len:=h.len
 out:=fun p hp=>h.out p (by omega)
 perm:=h.perm
 inn:=fun p p1 p2=>by
  by_cases hp:a≤p∧p<b
  ·obtain⟨q,q1,q2,e⟩:=h.inn p hp.1 hp.2;exact⟨q,by omega,by omega,e⟩
  ·exact⟨p,p1,p2,h.out p (by omega)⟩
theorem mix_swp{a b i j:Nat}{l:List Int}(hb:b≤l.length)(hi:a≤i)(hi':i<b)(hj:a≤j)(hj':j<b):Mix a b l (swp l i j) where
 len:=swp_len l i j
 out:=fun p hp=>by rw [swp_get l i j p (by omega) (by omega),if_neg (by omega),if_neg (by omega)]
 perm:=swp_perm l i j (by omega) (by omega)
 inn:=fun p p1 p2=>by
  rw [swp_get l i j p (by omega) (by omega)];by_cases h1:p=j
  ·exact⟨i,hi,hi',by rw [if_pos h1]⟩
  ·by_cases h2:p=i
   ·exact⟨j,hj,hj',by rw [if_neg h1,if_pos h2]⟩
   ·exact⟨p,p1,p2,by rw [if_neg h1,if_neg h2]⟩
structure Ord(cf:Int→Int→Int)(S:Int→Prop):Prop where
 tr:∀x y z,S x→S y→S z→cf x y<0→cf y z<0→cf x z<0
 tot:∀x y,S x→S y→x≠y→¬ cf x y<0→cf y x<0
 irr:∀x,S x→¬ cf x x<0
structure Good(S:Int→Prop)(l:List Int):Prop where
 all:∀x∈l,S x
 nd:l.Nodup
theorem Good.perm{S:Int→Prop}{l m:List Int}(h:Good S l)(p:m.Perm l):Good S m:=⟨fun x hx=>h.all x (p.mem_iff.1 hx),p.nodup_iff.2 h.nd⟩
theorem Good.at{S:Int→Prop}{l:List Int}(h:Good S l)(p:Nat)(hp:p<l.length):S (l.getD p 0):=h.all _ (by rw [getD_at l p hp];exact List.getElem_mem hp)
theorem Good.ne{S:Int→Prop}{l:List Int}(h:Good S l){p q:Nat}(hp:p<l.length)(hq:q<l.length)(hpq:p≠q):l.getD p 0≠l.getD q 0:=by
 rw [getD_at l p hp,getD_at l q hq];intro e;exact hpq ((List.getElem_inj h.nd).1 e)
def Lt(cf:Int→Int→Int)(l:List Int)(p q:Nat):Prop:=cf (l.getD p 0) (l.getD q 0)<0
variable {cf:Int→Int→Int} {S:Int→Prop} {l m:List Int}
theorem lt_tr(o:Ord cf S)(g:Good S l){p q r:Nat}(hp:p<l.length)(hq:q<l.length)(hr:r<l.length)(h1:Lt cf l p q)(h2:Lt cf l q r):Lt cf l p r:=o.tr _ _ _ (g.at p hp) (g.at q hq) (g.at r hr) h1 h2
theorem lt_tot(o:Ord cf S)(g:Good S l){p q:Nat}(hp:p<l.length)(hq:q<l.length)(hpq:p≠q)(h:¬ Lt cf l p q):Lt cf l q p:=o.tot _ _ (g.at p hp) (g.at q hq) (g.ne hp hq hpq) h
theorem lt_as(o:Ord cf S)(g:Good S l){p q:Nat}(hp:p<l.length)(hq:q<l.length)(h:Lt cf l p q):¬ Lt cf l q p:=fun k=>o.irr _ (g.at p hp) (lt_tr o g hp hq hp h k)
theorem lt_eq{p q p' q':Nat}(h1:m.getD p 0=l.getD p' 0)(h2:m.getD q 0=l.getD q' 0)(h:Lt cf l p' q'):Lt cf m p q:=by unfold Lt;rw [h1,h2];exact h
def Up(cf:Int→Int→Int)(a b:Nat)(l:List Int):Prop:=∀p q,a≤p→p<q→q<b→Lt cf l p q
theorem up_none(a b:Nat)(h:b≤a+1):Up cf a b l:=fun p q h1 h2 h3=>by omega
def Near(cf:Int→Int→Int)(a b j:Nat)(l:List Int):Prop:=∀p q,a≤p→p<q→q<b→q≠j→Lt cf l p q
theorem near_start{a i:Nat}(h:Up cf a i l):Near cf a (i+1) i l:=fun p q h1 h2 h3 h4=>h p q h1 h2 (by omega)
theorem near_end(o:Ord cf S)(g:Good S l){a b j:Nat}(hb:b≤l.length)(hj:j<b)(h:Near cf a b j l)(he:j≤a∨¬ Lt cf l j (j-1)):Up cf a b l:=by
 intro p q h1 h2 h3;by_cases e:q=j
 ·subst e;rcases he with he | he
  ·omega
  ·have h4:Lt cf l (q-1) q:=lt_tot o g (by omega) (by omega) (by omega) he;by_cases e2:p=q-1
   ·subst e2;exact h4
   ·exact lt_tr o g (by omega) (by omega) (by omega) (h p (q-1) h1 (by omega) (by omega) (by omega)) h4
 ·exact h p q h1 h2 h3 e
theorem near_swap{a b j:Nat}(hb:b≤l.length)(hj:a<j)(hj':j<b)(h:Near cf a b j l)(hl:Lt cf l j (j-1)):Near cf a b (j-1) (swp l j (j-1)):=by
 intro p q h1 h2 h3 h4;have G:=fun p=>swp_get l j (j-1) p (by omega) (by omega)
 by_cases e:q=j
 ·subst e;by_cases e2:p=q-1
  ·subst e2;refine lt_eq (p':=q) (q':=q-1) ?_ ?_ hl
   ·rw [G,if_pos rfl]
   ·rw [G,if_neg (by omega),if_pos rfl]
  ·refine lt_eq (p':=p) (q':=q-1) ?_ ?_ (h p (q-1) h1 (by omega) (by omega) (by omega))
   ·rw [G,if_neg (by omega),if_neg (by omega)]
   ·rw [G,if_neg (by omega),if_pos rfl]
 ·have eq:(swp l j (j-1)).getD q 0=l.getD q 0:=by rw [G,if_neg h4,if_neg e]
  by_cases e2:p=j
  ·subst e2;refine lt_eq (p':=p-1) (q':=q) ?_ eq (h (p-1) q (by omega) (by omega) h3 (by omega));rw [G,if_neg (by omega),if_pos rfl]
  ·by_cases e3:p=j-1
   ·subst e3;refine lt_eq (p':=j) (q':=q) ?_ eq (h j q (by omega) (by omega) h3 (by omega));rw [G,if_pos rfl]
   ·refine lt_eq (p':=p) (q':=q) ?_ eq (h p q h1 h2 h3 e);rw [G,if_neg e3,if_neg e2]
theorem up_snoc(o:Ord cf S)(g:Good S l){a i:Nat}(hi:a<i)(hl:i<l.length)(h:Up cf a i l)(hn:¬ Lt cf l i (i-1)):Up cf a (i+1) l:=near_end o g (by omega) (by omega) (near_start h) (.inr hn)
theorem up_eq{a b:Nat}(h:Up cf a b l)(he:∀p,a≤p→p<b→m.getD p 0=l.getD p 0):Up cf a b m:=fun p q h1 h2 h3=>lt_eq (he p h1 (by omega)) (he q (by omega) h3) (h p q h1 h2 h3)
structure Part(cf:Int→Int→Int)(a b i j:Nat)(l:List Int):Prop where
 lo:∀p,a<p→p<i→Lt cf l p a
 hi:∀p,j<p→p<b→Lt cf l a p
theorem part_start(a b:Nat):Part cf a b (a+1) (b-1) l:=⟨fun p h1 h2=>by omega,fun p h1 h2=>by omega⟩
theorem part_i{a b i j:Nat}(h:Part cf a b i j l)(hl:Lt cf l i a):Part cf a b (i+1) j l:=by
 refine⟨fun p h1 h2=>?_,h.hi⟩;by_cases e:p=i
 ·subst e;exact hl
 ·exact h.lo p h1 (by omega)
theorem part_j(o:Ord cf S)(g:Good S l){a b i j:Nat}(h:Part cf a b i j l)(hb:b≤l.length)(ha:a<j)(hj:j<b)(hl:¬ Lt cf l j a):Part cf a b i (j-1) l:=by
 refine⟨h.lo,fun p h1 h2=>?_⟩;by_cases e:p=j
 ·subst e;exact lt_tot o g (by omega) (by omega) (by omega) hl
 ·exact h.hi p (by omega) h2
theorem part_swap(o:Ord cf S)(g:Good S l){a b i j:Nat}(h:Part cf a b i j l)(hb:b≤l.length)(ha:a<i)(hij:i<j)(hj:j<b)(h1:¬ Lt cf l i a)(h2:Lt cf l j a):Part cf a b (i+1) (j-1) (swp l i j):=by
 have G:=fun p=>swp_get l i j p (by omega) (by omega)
 have ea:(swp l i j).getD a 0=l.getD a 0:=by rw [G,if_neg (by omega),if_neg (by omega)]
 refine⟨fun p p1 p2=>?_,fun p p1 p2=>?_⟩
 ·by_cases e:p=i
  ·subst e;exact lt_eq (by rw [G,if_neg (by omega),if_pos rfl]) ea h2
  ·exact lt_eq (by rw [G,if_neg (by omega),if_neg e]) ea (h.lo p p1 (by omega))
 ·by_cases e:p=j
  ·subst e;exact lt_eq ea (by rw [G,if_pos rfl]) (lt_tot o g (by omega) (by omega) (by omega) h1)
  ·exact lt_eq ea (by rw [G,if_neg e,if_neg (by omega)]) (h.hi p (by omega) p2)
structure Cut(cf:Int→Int→Int)(a b mid:Nat)(l:List Int):Prop where
 lo:∀p,a≤p→p<mid→Lt cf l p mid
 hi:∀p,mid<p→p<b→Lt cf l mid p
theorem part_end{a b j:Nat}(h:Part cf a b (j+1) j l)(hb:b≤l.length)(ha:a≤j)(hj:j<b):Cut cf a b j (swp l j a):=by
 have G:=fun p=>swp_get l j a p (by omega) (by omega)
 have ej:(swp l j a).getD j 0=l.getD a 0:=by
  rw [G];by_cases e:j=a
  ·subst e;rw [if_pos rfl]
  ·rw [if_neg e,if_pos rfl]
 refine⟨fun p p1 p2=>?_,fun p p1 p2=>?_⟩
 ·by_cases e:p=a
  ·subst e;exact lt_eq (by rw [G,if_pos rfl]) ej (h.lo j (by omega) (by omega))
  ·exact lt_eq (by rw [G,if_neg e,if_neg (by omega)]) ej (h.lo p (by omega) (by omega))
 ·exact lt_eq ej (by rw [G,if_neg (by omega),if_neg (by omega)]) (h.hi p p1 p2)
def Heap(cf:Int→Int→Int)(f lo hi:Nat)(l:List Int):Prop:=∀p c,lo≤p→(c=2*p+1∨c=2*p+2)→c<hi→Lt cf l (f+c) (f+p)
structure Sift(cf:Int→Int→Int)(f lo hi r:Nat)(l:List Int):Prop where
 pairs:∀p c,lo≤p→p≠r→(c=2*p+1∨c=2*p+2)→c<hi→Lt cf l (f+c) (f+p)
 grand:∀q c,lo≤q→(r=2*q+1∨r=2*q+2)→(c=2*r+1∨c=2*r+2)→c<hi→Lt cf l (f+c) (f+q)
theorem sift_start{f lo hi:Nat}(h:Heap cf f (lo+1) hi l):Sift cf f lo hi lo l:=⟨fun p c h1 h2 h3 h4=>h p c (by omega) h3 h4,fun q c h1 h2 h3 h4=>by omega⟩
theorem sift_end{f lo hi r:Nat}(h:Sift cf f lo hi r l)(he:∀c,(c=2*r+1∨c=2*r+2)→c<hi→Lt cf l (f+c) (f+r)):Heap cf f lo hi l:=fun p c h1 h2 h3=>by
 by_cases e:p=r
 ·subst e;exact he c h2 h3
 ·exact h.pairs p c h1 e h2 h3
theorem sift_swap{f lo hi r c:Nat}(hb:f+hi≤l.length)(hlo:lo≤r)(h:Sift cf f lo hi r l)(hc:c=2*r+1∨c=2*r+2)(hc':c<hi)(h1:Lt cf l (f+r) (f+c))(h2:∀d,(d=2*r+1∨d=2*r+2)→d<hi→d≠c→Lt cf l (f+d) (f+c)):Sift cf f lo hi c (swp l (f+r) (f+c)):=by
 have G:=fun p=>swp_get l (f+r) (f+c) p (by omega) (by omega)
 have er:(swp l (f+r) (f+c)).getD (f+r) 0=l.getD (f+c) 0:=by rw [G,if_neg (by omega),if_pos rfl]
 have ec:(swp l (f+r) (f+c)).getD (f+c) 0=l.getD (f+r) 0:=by rw [G,if_pos rfl]
 have eo:∀p,p≠r→p≠c→(swp l (f+r) (f+c)).getD (f+p) 0=l.getD (f+p) 0:=fun p q1 q2=>by rw [G,if_neg (by omega),if_neg (by omega)]
 refine⟨fun p d p1 p2 p3 p4=>?_,fun q d q1 q2 q3 q4=>?_⟩
 ·by_cases e:p=r
  ·subst e;by_cases e2:d=c
   ·subst e2;exact lt_eq ec er h1
   ·exact lt_eq (eo d (by omega) e2) er (h2 d p3 p4 e2)
  ·by_cases e2:d=r
   ·subst e2;exact lt_eq er (eo p e p2) (h.grand p c p1 p3 hc hc')
   ·by_cases e3:d=c
    ·omega
    ·exact lt_eq (eo d e2 e3) (eo p e p2) (h.pairs p d p1 e p3 p4)
 ·obtain rfl:q=r:=by omega
  exact lt_eq (eo d (by omega) (by omega)) er (h.pairs c d (by omega) (by omega) q3 q4)
theorem heap_top(o:Ord cf S)(g:Good S l){f hi:Nat}(hb:f+hi≤l.length)(h:Heap cf f 0 hi l):∀n p,p≤n→0<p→p<hi→Lt cf l (f+p) f:=by
 intro n;induction n with
 | zero=>intro p h1 h2;omega
 | succ n ih=>
  intro p h1 h2 h3;have hp:=h ((p-1) / 2) p (by omega) (by omega) h3;by_cases e:(p-1) / 2=0
  ·rw [e] at hp;exact hp
  ·exact lt_tr o g (by omega) (by omega) (by omega) hp (ih ((p-1) / 2) (by omega) (by omega) (by omega))
structure Pops(cf:Int→Int→Int)(f n hi:Nat)(l:List Int):Prop where
 heap:Heap cf f 0 n l
 rest:∀p q,p<q→n≤q→q<hi→Lt cf l (f+p) (f+q)
theorem pops_swap(o:Ord cf S)(g:Good S l){f n hi:Nat}(hb:f+hi≤l.length)(hn:n<hi)(h:Pops cf f (n+1) hi l):Heap cf f 1 n (swp l f (f+n))∧∀p q,p<q→n≤q→q<hi→Lt cf (swp l f (f+n)) (f+p) (f+q):=by
 have G:=fun p=>swp_get l f (f+n) p (by omega) (by omega)
 have en:(swp l f (f+n)).getD (f+n) 0=l.getD f 0:=by rw [G,if_pos rfl]
 have eo:∀p,p≠0→p≠n→(swp l f (f+n)).getD (f+p) 0=l.getD (f+p) 0:=fun p q1 q2=>by rw [G,if_neg (by omega),if_neg (by omega)]
 refine⟨fun p c h1 h2 h3=>?_,fun p q h1 h2 h3=>?_⟩
 ·exact lt_eq (eo c (by omega) (by omega)) (eo p (by omega) (by omega)) (h.heap p c (by omega) h2 (by omega))
 ·have hr:∀r,r<n+1→∀q,n+1≤q→q<hi→Lt cf l (f+r) (f+q):=fun r hr q h1 h2=>h.rest r q (by omega) h1 h2
  by_cases e:q=n
  ·subst e;by_cases e2:p=0
   ·subst e2;have e0:(swp l f (f+q)).getD (f+0) 0=l.getD (f+q) 0:=by rw [G,if_neg (by omega),if_pos (by omega)]
    exact lt_eq e0 en (heap_top o g (by omega) h.heap q q (Nat.le_refl _) (by omega) (by omega))
   ·exact lt_eq (eo p e2 (by omega)) en (heap_top o g (by omega) h.heap p p (Nat.le_refl _) (by omega) (by omega))
  ·have eq:=eo q (by omega) e;by_cases e2:p=n
   ·subst e2;exact lt_eq en eq (hr 0 (by omega) q (by omega) h3)
   ·by_cases e3:p=0
    ·subst e3;have e0:(swp l f (f+n)).getD (f+0) 0=l.getD (f+n) 0:=by
      rw [G];rw [if_neg (by omega),if_pos (by omega)]
     exact lt_eq e0 eq (hr n (by omega) q (by omega) h3)
    ·exact lt_eq (eo p e3 e2) eq (h.rest p q h1 (by omega) h3)
theorem pops_mix(o:Ord cf S){f n hi:Nat}(hb:f+hi≤l.length)(hn:n≤hi)(hr:∀p q,p<q→n≤q→q<hi→Lt cf l (f+p) (f+q))(hm:Mix f (f+n) l m)(h:Heap cf f 0 n m):Pops cf f n hi m:=by
 refine⟨h,fun p q h1 h2 h3=>?_⟩;have eq:=hm.out (f+q) (by omega);by_cases e:p<n
 ·obtain⟨r,r1,r2,er⟩:=hm.inn (f+p) (by omega) (by omega);obtain⟨s,rfl⟩:∃s,r=f+s:=⟨r-f,by omega⟩
  exact lt_eq er eq (hr s q (by omega) h2 h3)
 ·exact lt_eq (hm.out (f+p) (by omega)) eq (hr p q h1 h2 h3)
theorem pops_up{f hi:Nat}(h:Pops cf f 0 hi l):Up cf f (f+hi) l:=fun p q h1 h2 h3=>by
 have:=h.rest (p-f) (q-f) (by omega) (by omega) (by omega);rwa [show f+(p-f)=p by omega,show f+(q-f)=q by omega] at this
def Rest(cf:Int→Int→Int)(a b c d:Nat)(l:List Int):Prop:=∀p q,a≤p→p<q→q<b→¬ (c≤p∧q<d)→Lt cf l p q
def Edge(cf:Int→Int→Int)(a b:Nat)(l:List Int):Prop:=a=0∨∀p,a≤p→p<b→Lt cf l (a-1) p
theorem edge_mix{a b:Nat}(h:Edge cf a b l)(hm:Mix a b l m):Edge cf a b m:=by
 rcases h with h | h
 ·exact .inl h
 ·by_cases e:a=0
  ·exact .inl e
  ·refine .inr fun p p1 p2=>?_
   obtain⟨q,q1,q2,eq⟩:=hm.inn p p1 p2;exact lt_eq (hm.out (a-1) (by omega)) eq (h q q1 q2)
theorem edge_sub{a b b':Nat}(h:Edge cf a b l)(hb:b'≤b):Edge cf a b' l:=by
 rcases h with h | h
 ·exact .inl h
 ·exact .inr fun p p1 p2=>h p p1 (by omega)
theorem rest_mix{a b c d:Nat}(h:Rest cf a b c d l)(hc:a≤c)(hd:d≤b)(hm:Mix c d l m):Rest cf a b c d m:=by
 intro p q h1 h2 h3 h4;by_cases e:c≤p∧p<d
 ·obtain⟨r,r1,r2,er⟩:=hm.inn p e.1 e.2;exact lt_eq er (hm.out q (by omega)) (h r q (by omega) (by omega) h3 (by omega))
 ·by_cases e2:c≤q∧q<d
  ·obtain⟨r,r1,r2,er⟩:=hm.inn q e2.1 e2.2;exact lt_eq (hm.out p (by omega)) er (h p r h1 (by omega) (by omega) (by omega))
  ·exact lt_eq (hm.out p (by omega)) (hm.out q (by omega)) (h p q h1 h2 h3 h4)
theorem rest_up{a b c d:Nat}(h:Rest cf a b c d l)(hu:Up cf c d l):Up cf a b l:=fun p q h1 h2 h3=>by
 by_cases e:c≤p∧q<d
 ·exact hu p q e.1 h2 e.2
 ·exact h p q h1 h2 h3 e
theorem cut_left(o:Ord cf S)(g:Good S m){a b c d mid:Nat}(hd:d≤b)(hb:b≤m.length)(hmid:c≤mid)(hmid':mid<d)(hc:a≤c)(h:Rest cf a b c d l)(hk:Cut cf c d mid l)(hm:Mix c mid l m)(hu:Up cf c mid m):Rest cf a b (mid+1) d m∧Edge cf (mid+1) d m:=by
 have hR:=rest_mix h hc hd (hm.mono (Nat.le_refl c) (Nat.le_of_lt hmid'));have em:m.getD mid 0=l.getD mid 0:=hm.out mid (by omega);have hlo:∀p,c≤p→p<mid→Lt cf m p mid:=fun p p1 p2=>by
  obtain⟨r,r1,r2,er⟩:=hm.inn p p1 p2;exact lt_eq er em (hk.lo r r1 r2)
 have hhi:∀p,mid<p→p<d→Lt cf m mid p:=fun p p1 p2=>lt_eq em (hm.out p (by omega)) (hk.hi p p1 p2)
 refine⟨fun p q h1 h2 h3 h4=>?_,.inr fun p p1 p2=>by rw [Nat.add_sub_cancel];exact hhi p (by omega) p2⟩;by_cases e:c≤p∧q<d
 ·by_cases e1:q<mid
  ·exact hu p q e.1 h2 e1
  ·by_cases e2:q=mid
   ·subst e2;exact hlo p e.1 h2
   ·by_cases e3:p=mid
    ·subst e3;exact hhi q h2 e.2
    ·exact lt_tr o g (by omega) (by omega) (by omega) (hlo p e.1 (by omega)) (hhi q (by omega) e.2)
 ·exact hR p q h1 h2 h3 e
theorem cut_right(o:Ord cf S)(g:Good S m){a b c d mid:Nat}(hd:d≤b)(hb:b≤m.length)(hmid:c≤mid)(hmid':mid<d)(hc:a≤c)(h:Rest cf a b c d l)(hE:Edge cf c d l)(hk:Cut cf c d mid l)(hm:Mix (mid+1) d l m)(hu:Up cf (mid+1) d m):Rest cf a b c mid m∧Edge cf c mid m:=by
 have hR:=rest_mix h hc hd (hm.mono (by omega:c≤mid+1) (Nat.le_refl d));have em:m.getD mid 0=l.getD mid 0:=hm.out mid (by omega);have hhi:∀p,mid<p→p<d→Lt cf m mid p:=fun p p1 p2=>by
  obtain⟨r,r1,r2,er⟩:=hm.inn p (by omega) p2;exact lt_eq em er (hk.hi r (by omega) r2)
 have hlo:∀p,c≤p→p<mid→Lt cf m p mid:=fun p p1 p2=>lt_eq (hm.out p (by omega)) em (hk.lo p p1 p2)
 refine⟨fun p q h1 h2 h3 h4=>?_,?_⟩
 ·by_cases e:c≤p∧q<d
  ·by_cases e1:mid<p
   ·exact hu p q (by omega) h2 e.2
   ·by_cases e2:q=mid
    ·subst e2;exact hlo p e.1 h2
    ·by_cases e3:p=mid
     ·subst e3;exact hhi q h2 e.2
     ·exact lt_tr o g (by omega) (by omega) (by omega) (hlo p e.1 (by omega)) (hhi q (by omega) e.2)
  ·exact hR p q h1 h2 h3 e
 ·rcases hE with hE | hE
  ·exact .inl hE
  ·by_cases e0:c=0
   ·exact .inl e0
   ·exact .inr fun p p1 p2=>lt_eq (hm.out (c-1) (by omega)) (hm.out p (by omega)) (hE p p1 (by omega))
theorem up_unique(o:Ord cf S):∀(l m:List Int),Good S l→m.Perm l→Up cf 0 l.length l→Up cf 0 m.length m→m=l:=by
 intro l;induction l with
 | nil=>intro m _ hp _ _;exact List.perm_nil.1 hp
 | cons x l ih=>
  intro m hg hp hu hv
  cases m with
  | nil=>exact absurd hp.length_eq (by simp)
  | cons y m=>
   have hlen:=hp.length_eq;have hgm:=hg.perm hp;have hxy:y=x:=by
    have h1:y∈x :: l:=hp.mem_iff.1 (by simp);have h2:x∈y :: m:=hp.mem_iff.2 (by simp);rcases List.mem_cons.1 h1 with e | e
    ·exact e
    ·rcases List.mem_cons.1 h2 with e' | e'
     ·exact e'.symm
     ·obtain⟨i,hi,ei⟩:=List.getElem_of_mem e;obtain⟨j,hj,ej⟩:=List.getElem_of_mem e';have a1:=hu 0 (i+1) (by omega) (by omega) (by simp;omega);have a2:=hv 0 (j+1) (by omega) (by omega) (by simp;omega);unfold Lt at a1 a2;have e1:(x :: l).getD (i+1) 0=y:=by rw [getD_at _ _ (by simp;omega)];simpa using ei
      have e2:(y :: m).getD (j+1) 0=x:=by rw [getD_at _ _ (by simp;omega)];simpa using ej
      rw [e1] at a1;rw [e2] at a2;have a1':cf x y<0:=a1;have a2':cf y x<0:=a2;have sx:=hg.all x (by simp);have sy:=hg.all y (by simp [e]);exact absurd (o.tr x y x sx sy sx a1' a2') (o.irr x sx)
   subst hxy;have hp':m.Perm l:=(List.perm_cons y).1 hp;congr 1
   refine ih m ⟨fun z hz=>hg.all z (by simp [hz]),(List.nodup_cons.1 hg.nd).2⟩ hp' ?_ ?_
   ·intro p q h1 h2 h3;exact hu (p+1) (q+1) (by omega) (by omega) (by simp;omega)
   ·intro p q h1 h2 h3;exact hv (p+1) (q+1) (by omega) (by omega) (by simp;omega)
end So
end
section
open Go.RowKit
namespace So
structure Row(w wr:World)(B g cap:Nat)(l:List Int):Prop where
 own:Memb.Own B wr (some ⟨g,0,none⟩) cap l
 gr:w.grownBy wr (some g)
theorem Row.cell{w wr:World}{B g cap:Nat}{l:List Int}(h:Row w wr B g cap l)(j:Nat)(hj:j<l.length):wr.cell? ⟨g,j,none⟩=some (.int .i64 (l.getD j 0)):=by
 refine(World.ownsRow.cellAt h.own j (by omega)).trans ?_;simp [List.getD,hj]
theorem Row.frozen{w wr:World}{B g cap:Nat}{l:List Int}(h:Row w wr B g cap l)(j:Nat):wr.frozen? ⟨g,j,none⟩=false:=World.ownsRow.frozenAt h.own j
theorem Row.lt{w wr:World}{B g cap:Nat}{l:List Int}(h:Row w wr B g cap l):g<wr.heap.size:=(World.ownsRow.lt h.own g rfl).2
theorem gr_refl(w:World)(r:Option Nat):w.grownBy w r:=⟨rfl,rfl,rfl,Nat.le_refl _,fun _ _ _=>rfl⟩
theorem gr_below{w w':World}(h:Below w.heap.size w w')(r:Option Nat):w.grownBy w' r:=⟨h.os,h.tape,h.output,h.size,fun k hk _=>h.block k hk⟩
theorem gr_set{w:World}(g j:Nat)(v:Value):w.grownBy (w.setCell ⟨g,j,none⟩ v) (some g):=by
 refine⟨rfl,rfl,rfl,by simp,fun k hk hne=>?_⟩;exact Below.heap_setCell w ⟨g,j,none⟩ v k (fun e=>hne (by rw [e]))
theorem Row.start{w:World}{B g cap:Nat}{l:List Int}(h:Memb.Own B w (some ⟨g,0,none⟩) cap l):Row w w B g cap l:=⟨h,gr_refl _ _⟩
theorem own_fr{B g cap:Nat}{w w':World}{l:List Int}(h:Memb.Own B w (some ⟨g,0,none⟩) cap l)(hb:Below w.heap.size w w'):Memb.Own B w' (some ⟨g,0,none⟩) cap l:=by
 have hg:w.grownBy w' none:=gr_below hb none;exact World.ownsRow.kept h hg (.inr (by simp [Value.ownBlock]))
theorem Row.below{w wr wr':World}{B g cap:Nat}{l:List Int}(h:Row w wr B g cap l)(hb:Below wr.heap.size wr wr'):Row w wr' B g cap l:=⟨own_fr h.own hb,h.gr.trans (gr_below hb _)⟩
theorem Row.drewN{w wr:World}{B g cap:Nat}{l:List Int}(h:Row w wr B g cap l)(n:Nat):Row w (wr.drewN n) B g cap l:=⟨h.own,⟨h.gr.os,h.gr.tape,h.gr.output,h.gr.size,h.gr.block⟩⟩
theorem own_set{B g cap:Nat}{w:World}{l:List Int}(h:Memb.Own B w (some ⟨g,0,none⟩) cap l)(j:Nat)(u:Int):Memb.Own B (w.setCell ⟨g,j,none⟩ (.int .i64 u)) (some ⟨g,0,none⟩) cap (l.set j u):=by
 have:=(World.ownsRow.stored h j (.int .i64 u)).1;unfold Memb.Own;rw [List.length_set,List.map_set];exact this
theorem Row.swap{w wr:World}{B g cap:Nat}{l:List Int}(h:Row w wr B g cap l)(i j:Nat):Row w ((wr.setCell ⟨g,i,none⟩ (.int .i64 (l.getD j 0))).setCell ⟨g,j,none⟩ (.int .i64 (l.getD i 0))) B g cap (swp l i j):=by
 refine⟨?_,(h.gr.trans (gr_set g i _)).trans (gr_set g j _)⟩;exact own_set (own_set h.own i _) j _
theorem Row.again{w w1 w2:World}{B g cap:Nat}{l m:List Int}(h:Row w w1 B g cap l)(k:Row w1 w2 B g cap m):Row w w2 B g cap m:=⟨k.own,h.gr.trans k.gr⟩
def Cmp(w:World)(g:Nat)(lv:Value)(cf:Int→Int→Int)(S:Int→Prop):Prop:=
 ∀(W:World) (x y:Int),w.grownBy W (some g)→S x→S y→Calls Tryz.prog 150 #[lv,.int .i64 x,.int .i64 y] W fun e w'=>e=.returned (.int .i64 (cf x y))∧Below W.heap.size W w'
theorem Cmp.later{w w1:World}{g:Nat}{lv:Value}{cf:Int→Int→Int}{S:Int→Prop}(h:Cmp w g lv cf S)(hg:w.grownBy w1 (some g)):Cmp w1 g lv cf S:=fun W x y hW=>h W x y (hg.trans hW)
structure Ctx(w:World)(g:Nat)(lv:Value)(cf:Int→Int→Int)(S:Int→Prop):Prop where
 cmp:Cmp w g lv cf S
 ord:Ord cf S
theorem Ctx.later{w w1:World}{g:Nat}{lv:Value}{cf:Int→Int→Int}{S:Int→Prop}(h:Ctx w g lv cf S)(hg:w.grownBy w1 (some g)):Ctx w1 g lv cf S:=⟨h.cmp.later hg,h.ord⟩
structure St(w wr:World)(B g cap:Nat)(S:Int→Prop)(a b:Nat)(l m:List Int):Prop where
 row:Row w wr B g cap m
 mix:Mix a b l m
 good:Good S m
theorem St.len{w wr:World}{B g cap:Nat}{S:Int→Prop}{a b:Nat}{l m:List Int}(h:St w wr B g cap S a b l m):m.length=l.length:=h.mix.len
theorem St.below{w wr wr':World}{B g cap:Nat}{S:Int→Prop}{a b:Nat}{l m:List Int}(h:St w wr B g cap S a b l m)(hb:Below wr.heap.size wr wr'):St w wr' B g cap S a b l m:=⟨h.row.below hb,h.mix,h.good⟩
theorem St.drewN{w wr:World}{B g cap:Nat}{S:Int→Prop}{a b:Nat}{l m:List Int}(h:St w wr B g cap S a b l m)(n:Nat):St w (wr.drewN n) B g cap S a b l m:=⟨h.row.drewN n,h.mix,h.good⟩
theorem St.swap{w wr:World}{B g cap:Nat}{S:Int→Prop}{a b:Nat}{l m:List Int}(h:St w wr B g cap S a b l m)(hb:b≤l.length)(i j:Nat)(hi:a≤i)(hi':i<b)(hj:a≤j)(hj':j<b):St w ((wr.setCell ⟨g,i,none⟩ (.int .i64 (m.getD j 0))).setCell ⟨g,j,none⟩ (.int .i64 (m.getD i 0))) B g cap S a b l (swp m i j):=
 ⟨h.row.swap i j,h.mix.trans (mix_swp (by rw [h.mix.len];exact hb) hi hi' hj hj'),h.good.perm (swp_perm m i j (by rw [h.mix.len];omega) (by rw [h.mix.len];omega))⟩
theorem St.start{w:World}{B g cap:Nat}{S:Int→Prop}{a b:Nat}{l:List Int}(h:Memb.Own B w (some ⟨g,0,none⟩) cap l)(hg:Good S l):St w w B g cap S a b l l:=⟨Row.start h,Mix.refl _ _ _,hg⟩
theorem St.call{w wr w2:World}{B g cap:Nat}{S:Int→Prop}{a b a' b':Nat}{l m n:List Int}(h:St w wr B g cap S a b l m)(h1:a≤a')(h2:b'≤b)(k:St wr w2 B g cap S a' b' m n):St w w2 B g cap S a b l n:=⟨h.row.again k.row,h.mix.trans (k.mix.mono h1 h2),k.good⟩
end So
end
section
open Go.RowKit
namespace So
theorem insertion(B g cap:Nat)(lv:Value)(cf:Int→Int→Int)(S:Int→Prop)(a b:Nat)(l:List Int)(w:World)(hc:Ctx w g lv cf S)(h:Memb.Own B w (some ⟨g,0,none⟩) cap l)(hg:Good S l)(hab:a≤b)(hb:b≤l.length)(hl:l.length≤1048576) :
   Calls Tryz.prog 190 #[.slice (some ⟨g,0,none⟩) l.length cap,.int .i64 a,.int .i64 b,.func (.func 150) #[lv] #[]] w fun e w'=>e=.returned (.tuple #[])∧∃m,St w w' B g cap S a b l m∧Up cf a b m:=by
 have HC:Hid (Ctx w g lv cf S):=hc;have HS:Hid (St w w B g cap S a b l l):=St.start h hg;clear hc h hg;go_enter Tryz.func190,Tryz.ntmps190
 go_wp2;go_loopw [8] (fun iv wr=>∃(i:Nat) (m:List Int),a+1≤i∧(i≤b∨i=a+1)∧iv=.int .i64 i∧Hid (St w wr B g cap S a b l m)∧Hid (Up cf a i m)) (fun iv _=>b-(intOf iv).toNat)
 case atStart=>exact⟨a+1,l,by omega,.inr rfl,by go_num,HS,up_none _ _ (by omega)⟩
 case round=>
   obtain⟨i,m,hi,hi',rfl,HM,HU⟩:=hrel;clear HS;by_cases hib:i<b
   · have hib':(i:Int)<(b:Int):=by omega
     have HN:Hid (Near cf a (i+1) i m):=near_start HU.out;clear HU hi';go_wp2;go_loopw [9] (fun jv wr=>∃(j:Nat) (m:List Int),a≤j∧j≤i∧jv=.int .i64 j∧Hid (St w wr B g cap S a b l m)∧Hid (Near cf a (i+1) j m)) (fun jv _=>(intOf jv).toNat)
     case atStart=>exact⟨i,m,by omega,by omega,rfl,HM,HN⟩
     case round=>
       obtain⟨j,m,hj,hj',rfl,HM,HN⟩:=hrel;by_cases haj:a<j
       · have haj':decide ((a:Int)<(j:Int))=true:=by simp;omega
         obtain⟨t,ht⟩:∃t:Nat,t=j-1:=⟨_,rfl⟩
         have hjt:(j:Int)-1=(t:Int):=by omega
         have HT:Hid (t=j-1):=ht;have hjl:(j:Int)<(l.length:Int):=by omega
         have htl:(t:Int)<(l.length:Int):=by omega
         have cj:=HM.out.row.cell j (by rw [HM.out.len];omega);have ct:=HM.out.row.cell t (by rw [HM.out.len];omega);have hcall:∀W:World,Below wr.heap.size wr W→Calls Tryz.prog 150 #[lv,.int .i64 (m.getD j 0),.int .i64 (m.getD t 0)] W fun e w'=>e=.returned (.int .i64 (cf (m.getD j 0) (m.getD t 0)))∧Below W.heap.size W w':=fun W hW=>HC.out.cmp W _ _ (HM.out.row.below hW).gr (HM.out.good.at j (by rw [HM.out.len];omega)) (HM.out.good.at t (by rw [HM.out.len];omega))
         have HCA:Hid (∀W:World,Below wr.heap.size wr W→Calls Tryz.prog 150 #[lv,.int .i64 (m.getD j 0),.int .i64 (m.getD t 0)] W fun e w'=>e=.returned (.int .i64 (cf (m.getD j 0) (m.getD t 0)))∧Below W.heap.size W w'):=hcall;have HLT:Hid (∀z:Int,z=cf (m.getD j 0) (m.getD t 0)→(Lt cf m j (j-1)↔z<0)):=fun z hz=>by rw [hz,ht];exact Iff.rfl
         have hgl:=HM.out.row.lt;clear ht hcall;obtain⟨X,_,F,HF,HG⟩:=Fam.fam wr;have HMF:Hid (∀z,St w (F z) B g cap S a b l m):=fun z=>HM.out.below (HF.out z)
         have hcj:∀z,(F z).cell? ⟨g,j,none⟩=some (.int .i64 (m.getD j 0)):=fun z=>((HF.out z).cell (p:=⟨g,j,none⟩) hgl).trans cj
         have hct:∀z,(F z).cell? ⟨g,t,none⟩=some (.int .i64 (m.getD t 0)):=fun z=>((HF.out z).cell (p:=⟨g,t,none⟩) hgl).trans ct
         clear cj ct HM;generalize hx:m.getD j 0=x at hcj HCA HLT;generalize hy:m.getD t 0=y at hct HCA HLT;have HX:Hid (m.getD j 0=x):=hx;have HY:Hid (m.getD t 0=y):=hy;clear hx hy;generalize hz:cf x y=z at HCA HLT;have HLZ:Hid (Lt cf m j (j-1)↔z<0):=HLT.out z rfl;clear hz HLT;go_wp2_with fail
         refine Fam.region (F:=F) (by kernel_rfl) (by kernel_rfl) (HG.out _ (Below.refl _ wr).drew) ?_
         repeat (go_big_quiet_step (first
           | (go_at_call 150;exact(HCA.out _ (HF.out _)).mono fun _ _ h=>⟨h.1,HG.out _ ((HF.out _).trans (h.2.mono (HF.out _).size))⟩)))
         refine wpQuiet_nil ?_;intro w2 hw2;obtain⟨zz,rfl⟩:=hw2;have HM2:Hid (St w (F zz) B g cap S a b l m):=HMF.out zz;clear hcj hct HMF HCA HG HF;generalize F zz=V at HM2 ⊢;by_cases hz0:z<0
         · have cj:=HM2.out.row.cell j (by rw [HM2.out.len];omega);have ct:=HM2.out.row.cell t (by rw [HM2.out.len];omega);have fj:=HM2.out.row.frozen j;have ft:=HM2.out.row.frozen t;have hne:¬ j=t:=by have:=HT.out;omega
           have hne':¬ t=j:=fun e=>hne e.symm
           have HN2:Hid (Near cf a (i+1) t (swp m j t)):=by show Near _ _ _ _ _;rw [HT.out];exact near_swap (by rw [HM2.out.len];omega) haj (by omega) HN.out (HLZ.out.2 hz0)
           have HM3:Hid (St w ((V.setCell ⟨g,j,none⟩ (.int .i64 (m.getD t 0))).setCell ⟨g,t,none⟩ (.int .i64 (m.getD j 0))) B g cap S a b l (swp m j t)):=HM2.out.swap hb j t (by omega) (by omega) (by have:=HT.out;omega) (by have:=HT.out;omega);have ht2:a≤t∧t≤i∧t<j:=by have:=HT.out;omega
           rw [HX.out] at cj HM3;rw [HY.out] at ct HM3;clear HN HM2 HLZ HX HY HT;go_wp2_with fail
           go_region
           all_goals (go_wp2)
           all_goals go_roundw
           case rel=>exact⟨t,_,ht2.1,ht2.2.1,by go_num,HM3.out.drewN 1,HN2⟩
           case measure=>simp [intOf];omega
         · have HU2:Hid (Up cf a (i+1) m):=near_end HC.out.ord HM2.out.good (by rw [HM2.out.len];omega) (by omega) HN.out (.inr fun e=>hz0 (HLZ.out.1 e));clear HN HLZ HX HY HT;go_wp2;go_roundw
           case rel=>exact⟨i+1,m,by omega,.inl (by omega),by go_num,HM2,HU2⟩
           case measure=>simp [intOf];omega
       · have haj':decide ((a:Int)<(j:Int))=false:=by simp;omega
         have HU2:Hid (Up cf a (i+1) m):=near_end HC.out.ord HM.out.good (by rw [HM.out.len];omega) (by omega) HN.out (.inl (by omega));have HMF:Hid (∀n,St w (wr.drewN n) B g cap S a b l m):=fun n=>HM.out.drewN n
         clear HM HN;go_wp2_with fail
         go_quiet (fail)
         go_wp2;go_roundw
         case rel=>exact⟨i+1,m,by omega,.inl (by omega),by go_num,HMF.out _,HU2⟩
         case measure=>simp [intOf];omega
   · have hib':¬ (i:Int)<(b:Int):=by omega
     have HU2:Hid (Up cf a b m):=by
       rcases hi' with e | e
       · obtain rfl:i=b:=by omega
         exact HU
       · exact up_none _ _ (by omega)
     clear HU;go_wp2;go_end0;exact⟨rfl,m,HM.out,HU2.out⟩
end So
end
section
open Go.RowKit
namespace So
theorem St.asks{w wr:World}{B g cap:Nat}{lv:Value}{cf:Int→Int→Int}{S:Int→Prop}{a b:Nat}{l m:List Int}(h:St w wr B g cap S a b l m)(hc:Ctx w g lv cf S){p q:Nat}(hp:p<l.length)(hq:q<l.length):∀W:World,Below wr.heap.size wr W→Calls Tryz.prog 150 #[lv,.int .i64 (m.getD p 0),.int .i64 (m.getD q 0)] W fun e w'=>e=.returned (.int .i64 (cf (m.getD p 0) (m.getD q 0)))∧Below W.heap.size W w':=
 fun W hW=>hc.cmp W _ _ (h.row.below hW).gr (h.good.at p (by rw [h.len];exact hp)) (h.good.at q (by rw [h.len];exact hq))
theorem siftDown(B g cap:Nat)(lv:Value)(cf:Int→Int→Int)(S:Int→Prop)(lo hi f:Nat)(l:List Int)(w:World)(hc:Ctx w g lv cf S)(h:Memb.Own B w (some ⟨g,0,none⟩) cap l)(hg:Good S l)(hlo:lo≤hi)(hb:f+hi≤l.length)(hl:l.length≤1048576)(hp:Heap cf f (lo+1) hi l) :
   Calls Tryz.prog 201 #[.slice (some ⟨g,0,none⟩) l.length cap,.int .i64 lo,.int .i64 hi,.int .i64 f,.func (.func 150) #[lv] #[]] w fun e w'=>e=.returned (.tuple #[])∧∃m,St w w' B g cap S (f+lo) (f+hi) l m∧Heap cf f lo hi m:=by
 have HC:Hid (Ctx w g lv cf S):=hc;have HS:Hid (St w w B g cap S (f+lo) (f+hi) l l):=St.start h hg;have HP:Hid (Sift cf f lo hi lo l):=sift_start hp;clear hc h hg hp;go_enter Tryz.func201,Tryz.ntmps201
 go_wp2;go_loopw [10] (fun rv wr=>∃(r:Nat) (m:List Int),lo≤r∧r≤hi∧rv=.int .i64 r∧Hid (St w wr B g cap S (f+lo) (f+hi) l m)∧Hid (Sift cf f lo hi r m)) (fun rv _=>hi-(intOf rv).toNat)
 case atStart=>exact⟨lo,l,by omega,by omega,rfl,HS,HP⟩
 case round=>
   obtain⟨r,m,hr,hr',rfl,HM,HP2⟩:=hrel;clear HS HP;obtain⟨c,hc⟩:∃c:Nat,c=2*r+1:=⟨_,rfl⟩
   have hci:(2:Int)*(r:Int)+1=(c:Int):=by omega
   have HCE:Hid (c=2*r+1):=hc;clear hc;by_cases hch:c<hi
   · have hch':¬ (hi:Int)≤(c:Int):=by omega
     have hgl:=HM.out.row.lt;go_upto_region 3 with fail
     go_cut [11,40] from 13 to 81 (fun cv tv wx=>∃t:Bool,cv=.int .i64 c∧tv=.bool t∧Hid (t=true→c+1<hi∧∀e,(e=2*r+1∨e=2*r+2)→e<hi→e≠c+1→Lt cf m (f+e) (f+(c+1)))∧Hid (t=false→∀e,(e=2*r+1∨e=2*r+2)→e<hi→e≠c→Lt cf m (f+e) (f+c))∧Hid (St w wx B g cap S (f+lo) (f+hi) l m))
     case first=>
       by_cases h1:c+1<hi
       · have h1':decide ((c:Int)+1<(hi:Int))=true:=by simp;omega
         obtain⟨y1,hy1⟩:∃y:Nat,y=f+c:=⟨_,rfl⟩
         obtain⟨y2,hy2⟩:∃y:Nat,y=f+c+1:=⟨_,rfl⟩
         have e1:(f:Int)+(c:Int)=(y1:Int):=by omega
         have e2:(y1:Int)+1=(y2:Int):=by omega
         have l1:(y1:Int)<(l.length:Int):=by omega
         have l2:(y2:Int)<(l.length:Int):=by omega
         have HNE:Hid (¬ Lt cf m y1 y2→Lt cf m y2 y1):=lt_tot HC.out.ord HM.out.good (by rw [HM.out.len];omega) (by rw [HM.out.len];omega) (by omega);have HY1:Hid (y1=f+c):=hy1;have HY2:Hid (y2=f+(c+1)):=hy2;clear hy1 hy2;have HCAA:Hid (_):=HM.out.asks HC.out (p:=y1) (q:=y2) (by omega) (by omega);have HLLA:Hid (∀z:Int,z=cf (m.getD y1 0) (m.getD y2 0)→(Lt cf m y1 y2↔z<0)):=fun z hz=>by rw [hz];exact Iff.rfl
         obtain⟨XA,_,FA,HFA,HGA⟩:=Fam.fam wr;have HMFA:Hid (∀z,St w (FA z) B g cap S (f+lo) (f+hi) l m):=fun z=>HM.out.below (HFA.out z)
         have hcpA:∀z,(FA z).cell? ⟨g,y1,none⟩=some (.int .i64 (m.getD y1 0)):=fun z=>(HMFA.out z).row.cell y1 (by rw [HM.out.len];omega)
         have hcqA:∀z,(FA z).cell? ⟨g,y2,none⟩=some (.int .i64 (m.getD y2 0)):=fun z=>(HMFA.out z).row.cell y2 (by rw [HM.out.len];omega)
         clear HM;generalize m.getD y1 0=vpA at hcpA HCAA HLLA;generalize m.getD y2 0=vqA at hcqA HCAA HLLA;generalize cf vpA vqA=zA at HCAA HLLA;have HLTA:Hid (Lt cf m y1 y2↔zA<0):=HLLA.out _ rfl;clear HLLA;go_wp2_with fail
         refine Fam.region (F:=FA) (by kernel_rfl) (by kernel_rfl) (HGA.out _ (Below.refl _ wr).drew) ?_
         repeat (go_big_quiet_step (first
           | (go_at_call 150;exact(HCAA.out _ (HFA.out _)).mono fun _ _ h=>⟨h.1,HGA.out _ ((HFA.out _).trans (h.2.mono (HFA.out _).size))⟩)))
         refine wpQuiet_nil ?_;intro w2 hw2;obtain⟨zzA,rfl⟩:=hw2;have HM:Hid (St w (FA zzA) B g cap S (f+lo) (f+hi) l m):=HMFA.out zzA;clear hcpA hcqA HMFA HCAA HGA HFA;generalize FA zzA=VA at HM ⊢;clear e1 e2 l1 l2;have HD1 : Hid (decide (zA < 0) = true → c + 1 < hi ∧ ∀ e, (e = 2 * r + 1 ∨ e = 2 * r + 2) → e < hi → e ≠ c + 1 → Lt cf m (f + e) (f + (c + 1))) := fun hz0 => ⟨h1,fun e he _ hne=>by
           obtain rfl:e=c:=by have:=HCE.out;omega
           rw [← HY1.out,← HY2.out];exact HLTA.out.2 (of_decide_eq_true hz0)⟩
         have HD2:Hid (decide (zA<0)=false→∀e,(e=2*r+1∨e=2*r+2)→e<hi→e≠c→Lt cf m (f+e) (f+c)):=fun hz0 e he _ hne=>by
           obtain rfl:e=c+1:=by have:=HCE.out;omega
           rw [← HY1.out,← HY2.out];exact HNE.out fun k=>(of_decide_eq_false hz0) (HLTA.out.1 k)
         clear HLTA HNE HY1 HY2;go_wp2_with fail
         go_meet;exact⟨_,rfl,rfl,HD1,HD2,HM⟩
       · have h1':decide ((c:Int)+1<(hi:Int))=false:=by simp;omega
         have HD:Hid (∀e,(e=2*r+1∨e=2*r+2)→e<hi→e≠c→Lt cf m (f+e) (f+c)):=fun e he _ hne=>by have:=HCE.out;omega
         have HMF:Hid (∀n,St w (wr.drewN n) B g cap S (f+lo) (f+hi) l m):=fun n=>HM.out.drewN n
         clear HM;go_wp2_with fail
         go_quiet (fail)
         go_wp2_with fail
         go_meet;exact⟨false,rfl,rfl,fun h=>Bool.noConfusion h,fun _=>HD.out,HMF.out _⟩
     case rest=>
      obtain⟨t,rfl,rfl,HT1,HT2,HMc⟩:=hcut;clear HM;go_upto_if 40 with fail
      go_cut [11] from 13 to 81 (fun cv wx=>∃d:Nat,cv=.int .i64 d∧(d=2*r+1∨d=2*r+2)∧d<hi∧Hid (∀e,(e=2*r+1∨e=2*r+2)→e<hi→e≠d→Lt cf m (f+e) (f+d))∧Hid (St w wx B g cap S (f+lo) (f+hi) l m))
      case first=>
       cases t
       · have HD:Hid (∀e,(e=2*r+1∨e=2*r+2)→e<hi→e≠c→Lt cf m (f+e) (f+c)):=HT2.out rfl;clear HT1 HT2;go_wp2_with fail
         go_meet;exact⟨c,rfl,by have:=HCE.out;omega,by omega,HD,HMc⟩
       · have HD:Hid (c+1<hi∧∀e,(e=2*r+1∨e=2*r+2)→e<hi→e≠c+1→Lt cf m (f+e) (f+(c+1))):=HT1.out rfl;clear HT1 HT2;go_wp2_with fail
         go_meet;exact⟨c+1,by go_num,by have:=HCE.out;omega,HD.out.1,HD.out.2,HMc⟩
      case rest=>
       obtain⟨d,rfl,hd,hdh,HDO,HM2⟩:=hcut;clear hci HCE hch hch' HMc HT1 HT2;obtain⟨y1,hy1⟩:∃y:Nat,y=f+r:=⟨_,rfl⟩
       obtain⟨y2,hy2⟩:∃y:Nat,y=f+d:=⟨_,rfl⟩
       have HY1:Hid (y1=f+r):=hy1;have HY2:Hid (y2=f+d):=hy2;have e1:(f:Int)+(r:Int)=(y1:Int):=by omega
       have e2:(f:Int)+(d:Int)=(y2:Int):=by omega
       have l1:(y1:Int)<(l.length:Int):=by omega
       have l2:(y2:Int)<(l.length:Int):=by omega
       have hrd:r<d:=by omega
       have HNE:Hid (¬ Lt cf m y1 y2→Lt cf m y2 y1):=lt_tot HC.out.ord HM2.out.good (by rw [HM2.out.len];omega) (by rw [HM2.out.len];omega) (by omega);clear hy1 hy2;have HCAB:Hid (_):=HM2.out.asks HC.out (p:=y1) (q:=y2) (by omega) (by omega);have HLLB:Hid (∀z:Int,z=cf (m.getD y1 0) (m.getD y2 0)→(Lt cf m y1 y2↔z<0)):=fun z hz=>by rw [hz];exact Iff.rfl
       obtain⟨XB,_,FB,HFB,HGB⟩:=Fam.fam wc;have HMFB:Hid (∀z,St w (FB z) B g cap S (f+lo) (f+hi) l m):=fun z=>HM2.out.below (HFB.out z)
       have hcpB:∀z,(FB z).cell? ⟨g,y1,none⟩=some (.int .i64 (m.getD y1 0)):=fun z=>(HMFB.out z).row.cell y1 (by rw [HM2.out.len];omega)
       have hcqB:∀z,(FB z).cell? ⟨g,y2,none⟩=some (.int .i64 (m.getD y2 0)):=fun z=>(HMFB.out z).row.cell y2 (by rw [HM2.out.len];omega)
       clear HM2;generalize m.getD y1 0=vpB at hcpB HCAB HLLB;generalize m.getD y2 0=vqB at hcqB HCAB HLLB;generalize cf vpB vqB=zB at HCAB HLLB;have HLTB:Hid (Lt cf m y1 y2↔zB<0):=HLLB.out _ rfl;clear HLLB;go_wp2_with fail
       refine Fam.region (F:=FB) (by kernel_rfl) (by kernel_rfl) (HGB.out _ (Below.refl _ wc).drew) ?_
       repeat (go_big_quiet_step (first
         | (go_at_call 150;exact(HCAB.out _ (HFB.out _)).mono fun _ _ h=>⟨h.1,HGB.out _ ((HFB.out _).trans (h.2.mono (HFB.out _).size))⟩)))
       refine wpQuiet_nil ?_;intro w2 hw2;obtain⟨zzB,rfl⟩:=hw2;have HM2:Hid (St w (FB zzB) B g cap S (f+lo) (f+hi) l m):=HMFB.out zzB;clear hcpB hcqB HMFB HCAB HGB HFB;generalize FB zzB=VB at HM2 ⊢;by_cases hz0:zB<0
       · rw [show(!decide (zB<0))=false by simp [hz0]];have HP3:Hid (Sift cf f lo hi d (swp m y1 y2)):=by
           show Sift _ _ _ _ _ _;have hk:=HLTB.out.2 hz0;rw [HY1.out,HY2.out] at hk ⊢;exact sift_swap (by rw [HM2.out.len];omega) hr HP2.out hd hdh hk HDO.out
         have hy1:f+lo≤y1∧y1<f+hi∧f+lo≤y2∧y2<f+hi∧y1<y2:=by have:=HY1.out;have:=HY2.out;omega
         clear HP2 HLTB HNE HDO HY1 HY2;have cpC:=HM2.out.row.cell y1 (by rw [HM2.out.len];omega);have cqC:=HM2.out.row.cell y2 (by rw [HM2.out.len];omega);have fpC:=HM2.out.row.frozen y1;have fqC:=HM2.out.row.frozen y2;have hneC:¬ y1=y2:=by omega
         have hnfC:¬ y2=y1:=by omega
         have HMC:Hid (St w ((VB.setCell ⟨g,y1,none⟩ (.int .i64 (m.getD y2 0))).setCell ⟨g,y2,none⟩ (.int .i64 (m.getD y1 0))) B g cap S (f+lo) (f+hi) l (swp m y1 y2)):=HM2.out.swap (by omega) y1 y2 (by omega) (by omega) (by omega) (by omega);generalize m.getD y1 0=xpC at cpC HMC;generalize m.getD y2 0=xqC at cqC HMC;clear HM2;go_wp2_with fail
         go_region
         all_goals (go_wp2)
         all_goals go_roundw
         case rel=>exact⟨d,_,by omega,by omega,rfl,HMC.out.drewN 1,HP3⟩
         case measure=>simp [intOf];omega
       · rw [show(!decide (zB<0))=true by simp [hz0]];have HP3:Hid (Heap cf f lo hi m):=by
           refine sift_end HP2.out fun e he heh=>?_
           have hdr:Lt cf m (f+d) (f+r):=by rw [← HY1.out,← HY2.out];exact HNE.out fun k=>hz0 (HLTB.out.1 k)
           by_cases ed:e=d
           · subst ed;exact hdr
           · exact lt_tr HC.out.ord HM2.out.good (by rw [HM2.out.len];omega) (by rw [HM2.out.len];omega) (by rw [HM2.out.len];omega) (HDO.out e he heh ed) hdr
         clear HP2 HLTB HNE HDO HY1 HY2;go_wp2;refine bodyPost_ret (results_none rfl _ _ _) rfl ?_;exact⟨rfl,m,HM2.out,HP3.out⟩
   · have hch':(hi:Int)≤(c:Int):=by omega
     have HP3:Hid (Heap cf f lo hi m):=sift_end HP2.out fun e he heh=>by have:=HCE.out;omega
     clear HP2 HCE;go_wp2;go_end0;exact⟨rfl,m,HM.out,HP3.out⟩
end So
end
section
open Go.RowKit
namespace So
theorem heapSort(B g cap:Nat)(lv:Value)(cf:Int→Int→Int)(S:Int→Prop)(a b:Nat)(l:List Int)(w:World)(hc:Ctx w g lv cf S)(h:Memb.Own B w (some ⟨g,0,none⟩) cap l)(hg:Good S l)(hab:a<b)(hb:b≤l.length)(hl:l.length≤1048576) :
  Calls Tryz.prog 191 #[.slice (some ⟨g,0,none⟩) l.length cap,.int .i64 a,.int .i64 b,.func (.func 150) #[lv] #[]] w fun e w'=>e=.returned (.tuple #[])∧∃m,St w w' B g cap S a b l m∧Up cf a b m:=by
 obtain⟨n,hn⟩:∃n:Nat,n=b-a:=⟨_,rfl⟩
 have HN:Hid (b=a+n):=by show b=a+n;omega
 have hn0:0<n:=by omega
 have HC:Hid (Ctx w g lv cf S):=hc;have HS:Hid (St w w B g cap S a (a+n) l l):=St.start h hg;have HSD:Hid (∀(m:List Int) (wr:World) (lo hi:Nat),St w wr B g cap S a (a+n) l m→lo≤hi→hi≤n→Heap cf a (lo+1) hi m→Calls Tryz.prog 201 #[.slice (some ⟨g,0,none⟩) l.length cap,.int .i64 lo,.int .i64 hi,.int .i64 a,.func (.func 150) #[lv] #[]] wr fun e w'=>e=.returned (.tuple #[])∧∃k,St w w' B g cap S a (a+n) l k∧Mix (a+lo) (a+hi) m k∧Heap cf a lo hi k):=fun m wr lo hi hst h1 h2 h3=>by
  have:=siftDown B g cap lv cf S lo hi a m wr (HC.out.later hst.row.gr) hst.row.own hst.good h1 (by rw [hst.len];omega) (by rw [hst.len];omega) h3;rw [hst.len] at this;exact this.mono fun _ _ ⟨he,k,hk,hp⟩=>⟨he,k,hst.call (by omega) (by omega) hk,hk.mix,hp⟩
 have hba:(b:Int)-(a:Int)=(n:Int):=by omega
 obtain⟨t,ht⟩:∃t:Nat,t=(n-1) / 2:=⟨_,rfl⟩
 have hq:Int.tdiv ((n:Int)-1) 2=(t:Int):=by
  rw [Int.tdiv_eq_ediv_of_nonneg (by omega)];omega
 have HH0:Hid (Heap cf a (t+1) n l):=fun p c h1 h2 h3=>by omega
 have htn:t<n:=by omega
 have hnl:a+n≤l.length:=by omega
 clear hc h hg ht hn;go_enter Tryz.func191,Tryz.ntmps191
 go_wp2_with fail
 go_loopw [11] (fun iv wr=>∃(i:Nat) (m:List Int),i≤t+1∧iv=.int .i64 ((i:Int)-1)∧Hid (St w wr B g cap S a (a+n) l m)∧Hid (Heap cf a i n m)) (fun iv _=>(intOf iv+1).toNat)
 case atStart=>exact⟨t+1,l,by omega,by go_num,HS,HH0⟩
 case round=>
  obtain⟨i,m,hi,rfl,HM,HP⟩:=hrel;clear HS HH0;by_cases hi0:i=0
  ·subst hi0;have HP0:Hid (Pops cf a n n m):=⟨HP.out,fun p q h1 h2 h3=>by omega⟩
   clear HP;rw [show((0:Nat):Int)-1=-1 from rfl];go_wp2_with fail
   go_loopw [12] (fun iv wr=>∃(i:Nat) (m:List Int),i≤n∧iv=.int .i64 ((i:Int)-1)∧Hid (St w wr B g cap S a (a+n) l m)∧Hid (Pops cf a i n m)) (fun iv _=>(intOf iv+1).toNat)
   case atStart=>exact⟨n,m,by omega,by go_num,HM,HP0⟩
   case round=>
    obtain⟨i,m,hi,rfl,HM,HP⟩:=hrel;clear HP0;by_cases hi0:i=0
    ·subst hi0;have HU:Hid (Up cf a b m):=by show Up _ _ _ _;rw [HN.out];exact pops_up HP.out
     clear HP;rw [show((0:Nat):Int)-1=-1 from rfl];go_wp2_with fail
     go_end0;exact⟨rfl,m,by rw [HN.out];exact HM.out,HU.out⟩
    ·obtain⟨u,rfl⟩:∃u,i=u+1:=⟨i-1,by omega⟩
     rw [show(((u+1:Nat):Int))-1=(u:Int) by omega];obtain⟨y,hy⟩:∃y:Nat,y=a+u:=⟨_,rfl⟩
     have e1:(a:Int)+(u:Int)=(y:Int):=by omega
     have l1:(y:Int)<(l.length:Int):=by omega
     have l0:(a:Int)<(l.length:Int):=by omega
     have HPS:Hid (Heap cf a 1 u (swp m a y)∧∀p q,p<q→u≤q→q<n→Lt cf (swp m a y) (a+p) (a+q)):=by
      show _∧_;rw [hy];exact pops_swap HC.out.ord HM.out.good (by rw [HM.out.len];omega) (by omega) HP.out
     have hya:a≤y∧y<a+n:=by omega
     have HY:Hid (a+u=y):=hy.symm;clear HP hy;by_cases hu:u=0
     ·subst hu;obtain rfl:a=y:=by have:=HY.out;omega
      have HS2:Hid (_):=HM.out.swap (by omega) a a (by omega) (by omega) (by omega) (by omega);have cp:=HM.out.row.cell a (by rw [HM.out.len];omega);have fp:=HM.out.row.frozen a;generalize m.getD a 0=xa at cp HS2;clear HM;have HH:Hid (Heap cf a 1 0 (swp m a a)):=HPS.out.1;have HR:Hid (∀p q,p<q→0≤q→q<n→Lt cf (swp m a a) (a+p) (a+q)):=HPS.out.2;have HSW:Hid (∀W:World,St w W B g cap S a (a+n) l (swp m a a)→Calls Tryz.prog 201 #[.slice (some ⟨g,0,none⟩) l.length cap,.int .i64 0,.int .i64 0,.int .i64 a,.func (.func 150) #[lv] #[]] W fun e w'=>e=.returned (.tuple #[])∧∃k,St w w' B g cap S a (a+n) l k∧Mix (a+0) (a+0) (swp m a a) k∧Heap cf a 0 0 k):=fun W hW=>HSD.out (swp m a a) W 0 0 hW (by omega) (by omega) HH.out
      have HLEN:Hid ((swp m a a).length=l.length):=HS2.out.len;clear HPS;go_wp2_with fail
      go_region
      all_goals go_wp2_with fail
      refine(HSW.out _ (HS2.out.drewN 1)).mono ?_;rintro e w1 ⟨rfl,k,hk,hm,hh⟩;have HM:Hid (St w w1 B g cap S a (a+n) l k):=hk;have HP:Hid (Pops cf a 0 n k):=pops_mix HC.out.ord (by rw [HLEN.out];omega) (by omega) HR.out hm hh;clear hk hh hm HSW HR HH HS2;go_wp2;go_roundw
      case rel=>exact⟨0,k,by omega,by go_num,HM,HP⟩
      case measure=>simp [intOf]
     ·have:=HY.out;have cpC:=HM.out.row.cell a (by rw [HM.out.len];omega);have cqC:=HM.out.row.cell y (by rw [HM.out.len];omega);have fpC:=HM.out.row.frozen a;have fqC:=HM.out.row.frozen y;have hneC:¬ a=y:=by omega
      have hnfC:¬ y=a:=by omega
      have HMC:Hid (St w ((wr.setCell ⟨g,a,none⟩ (.int .i64 (m.getD y 0))).setCell ⟨g,y,none⟩ (.int .i64 (m.getD a 0))) B g cap S a (a+n) l (swp m a y)):=HM.out.swap (by omega) a y (by omega) (by omega) (by omega) (by omega);generalize m.getD a 0=xpC at cpC HMC;generalize m.getD y 0=xqC at cqC HMC;clear HM;go_wp2_with fail
      go_region
      have HH:Hid (Heap cf a 1 u (swp m a y)):=HPS.out.1;have HR:Hid (∀p q,p<q→u≤q→q<n→Lt cf (swp m a y) (a+p) (a+q)):=HPS.out.2;have HSW:Hid (∀W:World,St w W B g cap S a (a+n) l (swp m a y)→Calls Tryz.prog 201 #[.slice (some ⟨g,0,none⟩) l.length cap,.int .i64 0,.int .i64 u,.int .i64 a,.func (.func 150) #[lv] #[]] W fun e w'=>e=.returned (.tuple #[])∧∃k,St w w' B g cap S a (a+n) l k∧Mix (a+0) (a+u) (swp m a y) k∧Heap cf a 0 u k):=fun W hW=>HSD.out (swp m a y) W 0 u hW (by omega) (by omega) HH.out
      have HLEN:Hid ((swp m a y).length=l.length):=HMC.out.len;clear HPS
      all_goals go_wp2_with fail
      refine(HSW.out _ (HMC.out.drewN 1)).mono ?_;rintro e w1 ⟨rfl,k,hk,hm,hh⟩;have HM:Hid (St w w1 B g cap S a (a+n) l k):=hk;have HP:Hid (Pops cf a u n k):=pops_mix HC.out.ord (by rw [HLEN.out];omega) (by omega) HR.out hm hh;clear hk hh hm HSW HR HH HMC;go_wp2;go_roundw
      case rel=>exact⟨u,k,by omega,by go_num,HM,HP⟩
      case measure=>simp [intOf]
  ·obtain⟨u,rfl⟩:∃u,i=u+1:=⟨i-1,by omega⟩
   rw [show(((u+1:Nat):Int))-1=(u:Int) by omega];have hcall:=HSD.out m wr u n HM.out (by omega) (Nat.le_refl _) HP.out;clear HM HP;go_wp2_with fail
   refine hcall.mono ?_;rintro e w1 ⟨rfl,k,hk,_,hh⟩;have HM:Hid (St w w1 B g cap S a (a+n) l k):=hk;have HP:Hid (Heap cf a u n k):=hh;clear hk hh hcall;go_wp2;go_roundw
   case rel=>exact⟨u,k,by omega,by go_num,HM,HP⟩
   case measure=>simp [intOf]
end So
end
end Go.Proofs.YtbkeldfbllhlbaaGreat
