/-
 Plain mathematics of a heap (what goes up, what goes down, what stands at the top). No program in it.
-/
import Derived.WalkKit
set_option linter.unusedVariables false
set_option maxRecDepth 100000
namespace Go.Proofs.YtbkeldfbllhlbaaGreat
namespace Hp
def swap{α:Type}(D:Nat→α)(i j:Nat):Nat→α:=fun k=>if k=i then D j else if k=j then D i else D k
theorem swap_l{α:Type}(D:Nat→α)(i j:Nat):swap D i j i=D j:=by unfold swap;rw [if_pos rfl]
theorem swap_r{α:Type}(D:Nat→α)(i j:Nat):swap D i j j=D i:=by
 unfold swap;by_cases h:j=i
 ·rw [if_pos h,h]
 ·rw [if_neg h,if_pos rfl]
theorem swap_o{α:Type}(D:Nat→α)(i j k:Nat)(h1:k≠i)(h2:k≠j):swap D i j k=D k:=by unfold swap;rw [if_neg h1,if_neg h2]
structure Same{α:Type}(n:Nat)(D E:Nat→α):Prop where
 to:∀k,k<n→∃m,m<n∧E m=D k
 fro:∀k,k<n→∃m,m<n∧D m=E k
 inj:(∀a b,a<n→b<n→D a=D b→a=b)→∀a b,a<n→b<n→E a=E b→a=b
theorem Same.refl{α:Type}(n:Nat)(D:Nat→α):Same n D D:=⟨fun k h=>⟨k,h,rfl⟩,fun k h=>⟨k,h,rfl⟩,fun h=>h⟩
theorem Same.trans{α:Type}{n:Nat}{D E F:Nat→α}(h1:Same n D E)(h2:Same n E F):Same n D F where
 to:=fun k hk=>by
  obtain⟨m,hm,e⟩:=h1.to k hk;obtain⟨p,hp,e2⟩:=h2.to m hm;exact⟨p,hp,e2.trans e⟩
 fro:=fun k hk=>by
  obtain⟨m,hm,e⟩:=h2.fro k hk;obtain⟨p,hp,e2⟩:=h1.fro m hm;exact⟨p,hp,e2.trans e⟩
 inj:=fun h=>h2.inj (h1.inj h)
theorem same_swap{α:Type}{n:Nat}(D:Nat→α)(i j:Nat)(hi:i<n)(hj:j<n):Same n D (swap D i j) where
 to:=fun k hk=>by
  by_cases h1:k=i
  ·exact⟨j,hj,by rw [swap_r,h1]⟩
  ·by_cases h2:k=j
   ·exact⟨i,hi,by rw [swap_l,h2]⟩
   ·exact⟨k,hk,swap_o D i j k h1 h2⟩
 fro:=fun k hk=>by
  by_cases h1:k=i
  ·exact⟨j,hj,by rw [h1,swap_l]⟩
  ·by_cases h2:k=j
   ·exact⟨i,hi,by rw [h2,swap_r]⟩
   ·exact⟨k,hk,(swap_o D i j k h1 h2).symm⟩
 inj:=fun h a b ha hb e=>by
  have key:∀k,k<n→∃m,m<n∧swap D i j k=D m∧(k=i→m=j)∧(k≠i→k=j→m=i)∧(k≠i→k≠j→m=k):=fun k hk=>by
   by_cases h1:k=i
   ·exact⟨j,hj,by rw [h1,swap_l],fun _=>rfl,fun h=>absurd h1 h,fun h=>absurd h1 h⟩
   ·by_cases h2:k=j
    ·exact⟨i,hi,by rw [h2,swap_r],fun h=>absurd h h1,fun _ _=>rfl,fun _ h=>absurd h2 h⟩
    ·exact⟨k,hk,swap_o D i j k h1 h2,fun h=>absurd h h1,fun _ h=>absurd h h2,fun _ _=>rfl⟩
  obtain⟨p,hp,ep,p1,p2,p3⟩:=key a ha;obtain⟨q,hq,eq,q1,q2,q3⟩:=key b hb;have hpq:=h p q hp hq (by rw [← ep,← eq];exact e);by_cases a1:a=i
  ·by_cases b1:b=i
   ·omega
   ·have:=p1 a1;by_cases b2:b=j
    ·have:=q2 b1 b2;omega
    ·have:=q3 b1 b2;omega
  ·by_cases a2:a=j
   ·have:=p2 a1 a2;by_cases b1:b=i
    ·have:=q1 b1;omega
    ·by_cases b2:b=j
     ·omega
     ·have:=q3 b1 b2;omega
   ·have:=p3 a1 a2;by_cases b1:b=i
    ·have:=q1 b1;omega
    ·by_cases b2:b=j
     ·have:=q2 b1 b2;omega
     ·have:=q3 b1 b2;omega
structure Ord{α:Type}(lt:α→α→Bool):Prop where
 asym:∀a b,lt a b=true→lt b a=false
 ntr:∀a b c,lt b a=false→lt c b=false→lt c a=false
def IsHeap{α:Type}(lt:α→α→Bool)(n:Nat)(D:Nat→α):Prop:=∀k,0<k→k<n→lt (D k) (D ((k-1) / 2))=false
theorem Ord.irr{α:Type}{lt:α→α→Bool}(h:Ord lt)(a:α):lt a a=false:=by
 cases e:lt a a
 ·rfl
 ·exact(h.asym a a e).symm.trans e ▸ rfl
theorem top{α:Type}{lt:α→α→Bool}(ho:Ord lt){n:Nat}{D:Nat→α}(h:IsHeap lt n D):∀k,k<n→lt (D k) (D 0)=false:=by
 intro k;induction k using Nat.strongRecOn with
 | ind k ih=>
  intro hk;by_cases h0:k=0
  ·rw [h0];exact ho.irr _
  ·exact ho.ntr (D 0) (D ((k-1) / 2)) (D k) (ih _ (by omega) (by omega)) (h k (by omega) hk)
/-! ### up -/
def up{α:Type}(lt:α→α→Bool):Nat→(Nat→α)→Nat→Nat→α
 | 0,D,_=>D
 | f+1,D,j=>if (j-1) / 2=j then D else if lt (D j) (D ((j-1) / 2)) then up lt f (swap D ((j-1) / 2) j) ((j-1) / 2) else D
theorem up_same{α:Type}(lt:α→α→Bool)(n:Nat):∀(f:Nat) (D:Nat→α) (j:Nat),j<n→Same n D (up lt f D j)
 | 0,D,j,_=>Same.refl n D
 | f+1,D,j,hj=>by
  unfold up;split
  ·exact Same.refl n D
  ·split
   ·exact(same_swap D _ j (by omega) hj).trans (up_same lt n f _ _ (by omega))
   ·exact Same.refl n D
structure UpAt{α:Type}(lt:α→α→Bool)(n:Nat)(D:Nat→α)(j:Nat):Prop where
 oth:∀k,0<k→k<n→k≠j→lt (D k) (D ((k-1) / 2))=false
 und:∀k,0<k→k<n→(k-1) / 2=j→0<j→lt (D k) (D ((j-1) / 2))=false
theorem up_heap{α:Type}{lt:α→α→Bool}(ho:Ord lt)(n:Nat):∀(f:Nat) (D:Nat→α) (j:Nat),j≤f→j<n→UpAt lt n D j→IsHeap lt n (up lt (f+1) D j)
 | f,D,j,hf,hj,h=>by
  unfold up;split
  ·rename_i e;intro k h0 hk;exact h.oth k h0 hk (by omega)
  ·rename_i hne;split
   ·rename_i hlt
    cases f with
    | zero=>omega
    | succ f=>
     refine up_heap ho n f _ _ (by omega) (by omega) ⟨?_,?_⟩
     ·intro k h0 hk hki;by_cases hkj:k=j
      ·subst hkj;rw [swap_r,swap_l];exact ho.asym _ _ hlt
      ·rw [swap_o D _ j k hki hkj];by_cases hp:(k-1) / 2=j
       ·rw [hp,swap_r];exact h.und k h0 hk hp (by omega)
       ·by_cases hp2:(k-1) / 2=(j-1) / 2
        ·rw [hp2,swap_l];have h1:=h.oth k h0 hk hkj;rw [hp2] at h1;exact ho.ntr _ _ _ (ho.asym _ _ hlt) h1
        ·rw [swap_o D _ j _ hp2 hp];exact h.oth k h0 hk hkj
     ·intro k h0 hk hp hi0;have hgp:=h.oth ((j-1) / 2) hi0 (by omega) (by omega);have e2:swap D ((j-1) / 2) j (((j-1) / 2-1) / 2)=D (((j-1) / 2-1) / 2):=swap_o D _ j _ (by omega) (by omega);rw [e2];by_cases hkj:k=j
      ·subst hkj;rw [swap_r];exact hgp
      ·rw [swap_o D _ j k (by omega) hkj];have h1:=h.oth k h0 hk hkj;rw [hp] at h1;exact ho.ntr _ _ _ hgp h1
   ·rename_i hlt;intro k h0 hk;by_cases hkj:k=j
    ·subst hkj;simpa using hlt
    ·exact h.oth k h0 hk hkj
theorem push_heap{α:Type}{lt:α→α→Bool}(ho:Ord lt)(n:Nat)(D:Nat→α)(h:IsHeap lt n D):IsHeap lt (n+1) (up lt (n+1) D n):=by
 refine up_heap ho (n+1) n D n (Nat.le_refl _) (by omega) ⟨fun k h0 hk hkn=>h k h0 (by omega),fun k h0 hk hp _=>by omega⟩
/-! ### down -/
def kid{α:Type}(lt:α→α→Bool)(n:Nat)(D:Nat→α)(i:Nat):Nat:=if 2*i+2<n∧lt (D (2*i+2)) (D (2*i+1))=true then 2*i+2 else 2*i+1
def down{α:Type}(lt:α→α→Bool)(n:Nat):Nat→(Nat→α)→Nat→Nat→α
 | 0,D,_=>D
 | f+1,D,i=>if 2*i+1<n then (if lt (D (kid lt n D i)) (D i) then down lt n f (swap D i (kid lt n D i)) (kid lt n D i) else D) else D
theorem kid_bd{α:Type}(lt:α→α→Bool)(n:Nat)(D:Nat→α)(i:Nat)(h:2*i+1<n):kid lt n D i<n∧(kid lt n D i-1) / 2=i∧i<kid lt n D i:=by
 unfold kid;split <;> omega
theorem down_same{α:Type}(lt:α→α→Bool)(n m:Nat)(hnm:n≤m):∀(f:Nat) (D:Nat→α) (i:Nat),Same m D (down lt n f D i)
 | 0,D,i=>Same.refl m D
 | f+1,D,i=>by
  unfold down;split
  ·rename_i hlt;have:=kid_bd lt n D i hlt;split
   ·exact(same_swap D i _ (by omega) (by omega)).trans (down_same lt n m hnm f _ _)
   ·exact Same.refl m D
  ·exact Same.refl m D
theorem down_past{α:Type}(lt:α→α→Bool)(n:Nat):∀(f:Nat) (D:Nat→α) (i k:Nat),n≤k→down lt n f D i k=D k
 | 0,D,i,k,_=>rfl
 | f+1,D,i,k,hk=>by
  unfold down;split
  ·rename_i hlt;have:=kid_bd lt n D i hlt;split
   ·rw [down_past lt n f _ _ k hk,swap_o D i _ k (by omega) (by omega)]
   ·rfl
  ·rfl
structure DownAt{α:Type}(lt:α→α→Bool)(n a:Nat)(D:Nat→α)(i:Nat):Prop where
 oth:∀k,0<k→k<n→a≤(k-1) / 2→(k-1) / 2≠i→lt (D k) (D ((k-1) / 2))=false
 abv:∀k,0<k→k<n→(k-1) / 2=i→0<i→a≤(i-1) / 2→lt (D k) (D ((i-1) / 2))=false
def HeapFrom{α:Type}(lt:α→α→Bool)(n a:Nat)(D:Nat→α):Prop:=∀k,0<k→k<n→a≤(k-1) / 2→lt (D k) (D ((k-1) / 2))=false
theorem kid_least{α:Type}{lt:α→α→Bool}(ho:Ord lt){n:Nat}{D:Nat→α}{i:Nat}(h:2*i+1<n){k:Nat}(h0:0<k)(hk:k<n)(hp:(k-1) / 2=i):lt (D k) (D (kid lt n D i))=false:=by
 have hk2:k=2*i+1∨k=2*i+2:=by omega
 unfold kid;split
 ·rename_i hc;rcases hk2 with e | e
  ·rw [e];exact ho.asym _ _ hc.2
  ·rw [e];exact ho.irr _
 ·rename_i hc;rcases hk2 with e | e
  ·rw [e];exact ho.irr _
  ·rw [e]
   cases e2:lt (D (2*i+2)) (D (2*i+1))
   ·rfl
   ·exact absurd ⟨by omega,e2⟩ hc
theorem down_heap{α:Type}{lt:α→α→Bool}(ho:Ord lt)(n a:Nat):∀(f:Nat) (D:Nat→α) (i:Nat),a≤i→n≤f+i→DownAt lt n a D i→HeapFrom lt n a (down lt n (f+1) D i)
 | f,D,i,ha,hf,h=>by
  unfold down;split
  ·rename_i hin;obtain⟨kn,kp,ki⟩:=kid_bd lt n D i hin;have hleast:=fun k h0 hk hp=>kid_least ho (D:=D) hin (k:=k) h0 hk hp
   generalize kid lt n D i=j at kn kp ki hleast ⊢;split
   ·rename_i hlt
    cases f with
    | zero=>omega
    | succ f=>
     refine down_heap ho n a f _ _ (by omega) (by omega) ⟨?_,?_⟩
     ·intro k h0 hk hap hpj;by_cases hpi:(k-1) / 2=i
      ·rw [hpi,swap_l];by_cases hkj:k=j
       ·subst hkj;rw [swap_r];exact ho.asym _ _ hlt
       ·rw [swap_o D i j k (by omega) hkj];exact hleast k h0 hk hpi
      ·rw [swap_o D i j _ hpi hpj];have hkj:k≠j:=fun e=>hpi (by rw [e];exact kp)
       by_cases hki:k=i
       ·subst hki;rw [swap_l];exact h.abv j (by omega) kn kp (by omega) hap
       ·rw [swap_o D i j k hki hkj];exact h.oth k h0 hk hap hpi
     ·intro k h0 hk hp hj0 hap;rw [kp,swap_l,swap_o D i j k (by omega) (by omega)];have h1:=h.oth k h0 hk (by omega) (by omega);rw [hp] at h1;exact h1
   ·rename_i hlt;intro k h0 hk hap;by_cases hpi:(k-1) / 2=i
    ·rw [hpi];have e:lt (D j) (D i)=false:=by simpa using hlt
     exact ho.ntr _ _ _ e (hleast k h0 hk hpi)
    ·exact h.oth k h0 hk hap hpi
  ·rename_i hin;intro k h0 hk hap;exact h.oth k h0 hk hap (by omega)
theorem pop_heap{α:Type}{lt:α→α→Bool}(ho:Ord lt)(n:Nat)(D:Nat→α)(h:IsHeap lt (n+1) D)(f:Nat)(hf:n≤f):IsHeap lt n (down lt n (f+1) (swap D 0 n) 0):=by
 have := down_heap ho n 0 f (swap D 0 n) 0 (Nat.le_refl _) (by omega) ⟨fun k h0 hk _ hp=>by
   rw [swap_o D 0 n k (by omega) (by omega),swap_o D 0 n _ hp (by omega)];exact h k h0 (by omega),fun k _ _ _ h0 _=>absurd h0 (by omega)⟩
 exact fun k h0 hk=>this k h0 hk (Nat.zero_le _)
end Hp
end Go.Proofs.YtbkeldfbllhlbaaGreat
