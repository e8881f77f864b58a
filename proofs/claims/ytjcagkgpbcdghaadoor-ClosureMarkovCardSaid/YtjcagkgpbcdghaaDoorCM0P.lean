/- Several texts of the proof, one behind the other. -/
import Derived.Test.YtjcagkgpbcdghaaDoorCB9P
import Derived.Test.YtjcagkgpbcdghaaDoorCB0P
import Derived.Test.YtjcagkgpbcdghaaDoorW3P
import Derived.Test.YtjcagkgpbcdghaaDoorCB6P
/- Markov's moves on the strands' values: a letter and its opposite; one strand more; going around. -/
namespace Go.Proofs.YtjcagkgpbcdghaaDoor
theorem XK7 (l r:List Int) {k:Nat} (h:k<l.length):(l++r).getD k 0=l.getD k 0:=by
 rw[List.getD_eq_getElem?_getD,List.getElem?_append_left h,List.getD_eq_getElem?_getD]
theorem XK6 (l r:List Int) (k:Nat):(l++r).getD (l.length+k) 0=r.getD k 0:=by
 rw[List.getD_eq_getElem?_getD,List.getElem?_append_right (by omega),Nat.add_sub_cancel_left,List.getD_eq_getElem?_getD]
theorem Kz6 (l r:List Int) (t:Int) (a:Nat):∀ k,k<=l.length->∀ x,zV (l++r) t a k x=zV l t a k x
 |0,_,_=>rfl
 |k+1,hk,x=>by
  have ih:=Kz6 l r t a k (by omega)
  unfold zV
  rw[XK7 l r (by omega)]
  simp only[ih]
theorem Kv4 (l r:List Int):∀ k,k<=l.length->nN (l++r) k=nN l k
 |0,_=>rfl
 |k+1,hk=>by
  have ih:=Kv4 l r k (by omega)
  unfold nN
  rw[XK7 l r (by omega),ih]
def zS (y:Int) (t:Int) (Z:Nat->Int) (x:Nat):Int:=
 if 0<y then(if x=y.natAbs then t*Z (x+1)-(t-1)*Z x else if x=y.natAbs+1 then Z (x-1) else Z x)
 else(if x=y.natAbs then t*Z (x+1) else if x=y.natAbs+1 then Z (x-1)+(t-1)*Z x else t*Z x)
theorem Zk9 (l:List Int) (y t:Int) (a x:Nat):zV (l++[y]) t a (l.length+1) x=zS y t (zV l t a l.length) x:=by
 have h0:(l++[y]).getD l.length 0=y:=XK6 l [y] 0
 show(if 0<(l++[y]).getD l.length 0 then _ else _)=_
 unfold zS
 rw[h0]
 simp only[Kz6 l [y] t a l.length (Nat.le_refl _)]
theorem Zu6 (l:List Int) (y:Int):nN (l++[y]) (l.length+1)=nN l l.length+if 0<y then 0 else 1:=by
 have h0:(l++[y]).getD l.length 0=y:=XK6 l [y] 0
 show nN (l++[y]) l.length+(if 0<(l++[y]).getD l.length 0 then 0 else 1)=_
 rw[h0,Kv4 l [y] _ (Nat.le_refl _)]
theorem XX0 (l:List Int) (y t:Int) (x a:Nat):dT (l++[y]) t x a=zS y t (zV l t a l.length) x-if x=a then t ^ (nN l l.length+if 0<y then 0 else 1) else 0:=by
 unfold dT
 rw[List.length_append,show l.length+[y].length=l.length+1 from rfl,Zk9,Zu6]
theorem Kb9 {y:Int} (hy:y≠0) (t:Int) (Z:Nat->Int) (x:Nat):zS (-y) t (zS y t Z) x=t*Z x:=by
 unfold zS
 rw[Int.natAbs_neg]
 generalize y.natAbs=i
 by_cases q:0<y
 · simp only[if_pos q,if_neg (show ¬ 0 < -y by omega)]
   by_cases e1:x=i
   · simp only[if_pos e1,if_neg (show ¬ x+1=i by omega),if_pos (show x+1=i+1 by omega),Nat.add_sub_cancel]
   · simp only[if_neg e1]
     by_cases e2:x=i+1
     · simp only[if_pos e2,if_pos (show x-1=i by omega),show x-1+1=x by omega];grind
     · simp only[if_neg e2]
 · simp only[if_neg q,if_pos (show 0 < -y by omega)]
   by_cases e1:x=i
   · simp only[if_pos e1,if_neg (show ¬ x+1=i by omega),if_pos (show x+1=i+1 by omega),Nat.add_sub_cancel];grind
   · simp only[if_neg e1]
     by_cases e2:x=i+1
     · simp only[if_pos e2,if_pos (show x-1=i by omega),show x-1+1=x by omega]
     · simp only[if_neg e2]
theorem JK4 (l:List Int) {y:Int} (hy:y≠0) (t:Int) (x a:Nat):dT (l++[y]++[-y]) t x a=t*dT l t x a:=by
 have hlen:(l++[y]).length=l.length+1:=by simp
 rw[XX0,hlen,Zu6]
 have hz:zV (l++[y]) t a (l.length+1)=zS y t (zV l t a l.length):=funext fun x=>Zk9 l y t a x
 rw[hz,Kb9 hy]
 unfold dT
 have e:nN l l.length+(if 0<y then 0 else 1)+(if 0 < -y then 0 else 1)=nN l l.length+1:=by
  by_cases q:0<y
  · rw[if_pos q,if_neg (by omega)]
  · rw[if_neg q,if_pos (by omega)]
 rw[e,Int.mul_sub,Int.pow_succ]
 by_cases h:x=a
 · rw[if_pos h,if_pos h,Int.mul_comm (t ^ _)]
 · rw[if_neg h,if_neg h,Int.mul_zero]
def dD (n:Nat) (l:List Int):Nat->Nat:=fun t=>(dZ ((List.range' 1 (n-1)).map (dT l (t:Nat))) (List.range' 1 (n-1))).natAbs
theorem JK7 (n:Nat) (l:List Int) {y:Int} (hy:y≠0):Pq (dD n (l++[y]++[-y])) (dD n l):=by
 refine Pq.pow 0 (n-1) fun t _=>?_
 unfold dD
 rw[Nat.pow_zero,Nat.one_mul]
 have e:dZ ((List.range' 1 (n-1)).map (dT (l++[y]++[-y]) (t:Nat))) (List.range' 1 (n-1))=dZ ((List.range' 1 (n-1)).map fun x c=>(t:Int)*dT l (t:Nat) x c) (List.range' 1 (n-1)):=QW2 _ _ _ _ fun x _ c _=>JK4 l hy _ x c
 rw[e,Qg9 (dT l (t:Nat)) (fun _=>(t:Int)),Qv1 t _ (fun _=>1) _ fun x _=>by rw[Int.natAbs_natCast,Nat.pow_one]]
 congr 2
 have:∀ L:List Nat,(L.map fun _=>1).sum=L.length:=fun L=>by
  induction L with
  |nil=>rfl
  |cons x L ih=>rw[List.map_cons,List.sum_cons,ih,List.length_cons];omega
 rw[this,List.length_range']
section
variable {n:Nat} {l:List Int}
theorem Zk8 (t:Int) (a:Nat) {x:Nat} (h:∀ j,j<l.length->x≠(l.getD j 0).natAbs/\x≠(l.getD j 0).natAbs+1):∀ k,k<=l.length->zV l t a k x=if x=a then t ^ nN l k else 0
 |0,_=>by
  show(if x=a then(1:Int) else 0)=if x=a then t ^ 0 else 0
  rw[Int.pow_zero]
 |k+1,hk=>by
  have ih:=Zk8 t a h k (by omega)
  have hx:=h k (by omega)
  unfold zV nN
  rw[if_neg hx.1,if_neg hx.2,if_neg hx.1,if_neg hx.2,ih]
  by_cases q:0<l.getD k 0
  · rw[if_pos q,if_pos q,Nat.add_zero]
  · rw[if_neg q,if_neg q,Int.pow_succ]
    by_cases e:x=a
    · rw[if_pos e,if_pos e,Int.mul_comm]
    · rw[if_neg e,if_neg e,Int.mul_zero]
theorem Kz5 (hw:∀ j,j<l.length->1<=(l.getD j 0).natAbs/\(l.getD j 0).natAbs<n) (t:Int) {a:Nat} (h1:1<=a) (h2:a<=n):∀ k,k<=l.length->QX4 n (fun j=>t ^ (j+1)*zV l t a k (j+1))=t ^ nN l k*t ^ a
 |0,_=>by
  have e:=QY3 n a h1 h2 (fun x=>t ^ x)
  show QX4 n (fun j=>t ^ (j+1)*(if j+1=a then(1:Int) else 0))=t ^ 0*t ^ a
  rw[Int.pow_zero,Int.one_mul,<-e]
  refine QQ2 fun j _=>?_
  split
  · rw[Int.mul_one]
  · rw[Int.mul_zero]
 |k+1,hk=>by
  have ih:=Kz5 hw t h1 h2 k (by omega)
  have hx:=hw k (by omega)
  have hz:∀ x,zV l t a (k+1) x=zS (l.getD k 0) t (zV l t a k) x:=fun x=>rfl
  have hn:nN l (k+1)=nN l k+if 0<l.getD k 0 then 0 else 1:=rfl
  obtain⟨i,hi⟩:∃ i,(l.getD k 0).natAbs=i+1:=⟨(l.getD k 0).natAbs - 1,by omega⟩
  by_cases q:0<l.getD k 0
  · rw[hn,if_pos q,show nN l k+0=nN l k from rfl,<-ih]
    have key:QX4 n (fun j=>t ^ (j+1)*zV l t a (k+1) (j+1)-t ^ (j+1)*zV l t a k (j+1))=0:=by
     refine Xb4 (a:=i) (by omega) (fun j hj e1 e2=>?_) ?_
     · rw[hz];unfold zS;rw[if_pos q,hi,if_neg (by omega),if_neg (by omega)];omega
     · rw[hz,hz];unfold zS;rw[if_pos q,if_pos q,hi,if_pos rfl,if_neg (by omega),if_pos rfl,Nat.add_sub_cancel,Int.pow_succ,Int.pow_succ];grind
    rw[<-QB1]at key
    omega
  · rw[hn,if_neg q,Int.pow_succ,Int.mul_right_comm,<-ih,Int.mul_comm,<-QJ5]
    have key:QX4 n (fun j=>t ^ (j+1)*zV l t a (k+1) (j+1)-t*(t ^ (j+1)*zV l t a k (j+1)))=0:=by
     refine Xb4 (a:=i) (by omega) (fun j hj e1 e2=>?_) ?_
     · rw[hz];unfold zS;rw[if_neg q,hi,if_neg (by omega),if_neg (by omega)];grind
     · rw[hz,hz];unfold zS;rw[if_neg q,if_neg q,hi,if_pos rfl,if_neg (by omega),if_pos rfl,Nat.add_sub_cancel,Int.pow_succ,Int.pow_succ];grind
    rw[<-QB1]at key
    omega
theorem JK8 (hw:∀ j,j<l.length->1<=(l.getD j 0).natAbs/\(l.getD j 0).natAbs<n) (h2:2<=n) {y:Int} (hy:y.natAbs=n):Pq (dD (n+1) (l++[y])) (dD n l):=by
 have void:∀ t:Int,∀ a,a<=n->zV l t a l.length (n+1)=0:=fun t a ha=>by
  rw[Zk8 t a (x:=n+1) (fun j hj=>by have:=hw j hj;omega) l.length (Nat.le_refl _),if_neg (by omega)]
 obtain⟨p,hp⟩:∃ p,n=p+1:=⟨n - 1,by omega⟩
 have e0:List.range' 1 n=List.range' 1 (n-1)++[n]:=by
  rw[hp,List.range'_concat,Nat.add_sub_cancel]
  congr 2
  omega
 have block:∀ (t:Nat) (κ:Int),(dZ ((fun c=>κ*(if c=n then 1 else 0))::(List.range' 1 (n-1)).map (dT l (t:Nat))) (List.range' 1 n)).natAbs=κ.natAbs*(dZ ((List.range' 1 (n-1)).map (dT l (t:Nat))) (List.range' 1 (n-1))).natAbs:=fun t κ=>by
  rw[e0,QW8 _ List.perm_append_comm]
  have := Qv5 ((List.range' 1 (n - 1)).map (dT l (t : Nat))) (List.range' 1 (n - 1)) [fun c => κ * (if c = n then 1 else 0)] [n] rfl (fun r hr c hc => by
   have hc:=List.mem_range'_1.1 hc
   rw[List.mem_singleton.1 hr]
   show κ*(if c=n then 1 else 0)=0
   rw[if_neg (by omega),Int.mul_zero])
  show(dZ ([fun c=>κ*(if c=n then 1 else 0)]++(List.range' 1 (n-1)).map (dT l (t:Nat))) ([n]++List.range' 1 (n-1))).natAbs=_
  rw[this,Int.natAbs_mul]
  congr 2
  show κ*(if n=n then 1 else 0)*1-0=κ
  rw[if_pos rfl];omega
 by_cases q:0<y
 · refine Pq.pow n (n+nN l l.length+1) fun t ht=>?_
   unfold dD
   rw[Nat.add_sub_cancel]
   have lo:∀ x c,x<n->dT (l++[y]) (t:Nat) x c=dT l (t:Nat) x c:=fun x c hx=>by
    rw[XX0]
    unfold zS dT
    rw[if_pos q,hy,if_neg (by omega),if_neg (by omega),if_pos q,Nat.add_zero]
   have hi:∀ c,c<=n->dT (l++[y]) (t:Nat) n c = -((t:Int)-1)*dT l (t:Nat) n c-(t:Int)*(t:Int) ^ nN l l.length*(if c=n then 1 else 0):=fun c hc=>by
    rw[XX0]
    unfold zS dT
    rw[if_pos q,hy,if_pos rfl,if_pos q,Nat.add_zero,void _ c hc]
    by_cases e:n=c
    · subst e
      rw[if_pos rfl,if_pos rfl];grind
    · simp only[if_neg e,if_neg (fun z:c=n=>e z.symm)];grind
   rw[show dZ ((List.range' 1 n).map (dT (l++[y]) (t:Nat))) (List.range' 1 n)=dZ ((List.range' 1 (n-1)++[n]).map (dT (l++[y]) (t:Nat))) (List.range' 1 n) by rw[<-e0],QD8 (List.perm_append_comm.map _)]
   have e1:dZ (([n]++List.range' 1 (n-1)).map (dT (l++[y]) (t:Nat))) (List.range' 1 n)=dZ ((fun c => -((t:Int)-1)*dT l (t:Nat) n c-(t:Int)*(t:Int) ^ nN l l.length*(if c=n then 1 else 0))::(List.range' 1 (n-1)).map (dT l (t:Nat))) (List.range' 1 n):=by
    refine QH8 _ _ _ _ _ (fun c hc=>hi c (by have:=List.mem_range'_1.1 hc;omega)) fun rest _ hr=>?_
    exact QW2 _ _ _ _ fun x hx c hc=>lo x c (by have:=List.mem_range'_1.1 hx;omega)
   rw[e1]
   -- t^n times the first row, and the others
   have rel:∀ c,1<=c->c<=n->((List.range' 1 (n-1)).map fun x=>(t:Int) ^ x*dT l (t:Nat) x c).sum+(t:Int) ^ n*dT l (t:Nat) n c=0:=fun c c1 c2=>by
    have hr:=Kz5 hw (t:Int) c1 c2 l.length (Nat.le_refl _)
    have hd:=QY3 n c c1 c2 (fun x=>(t:Int) ^ x*(t:Int) ^ nN l l.length)
    have:QX4 n (fun j=>(t:Int) ^ (j+1)*dT l (t:Nat) (j+1) c)=0:=by
     have e:QX4 n (fun j=>(t:Int) ^ (j+1)*dT l (t:Nat) (j+1) c)=QX4 n (fun j=>(t:Int) ^ (j+1)*zV l (t:Nat) c l.length (j+1)-if j+1=c then(t:Int) ^ (j+1)*(t:Int) ^ nN l l.length else 0):=QQ2 fun j _=>by
      unfold dT
      rw[Int.mul_sub]
      split
      · rfl
      · rw[Int.mul_zero]
     rw[e,<-QB1,hr,hd,Int.mul_comm];omega
    rw[<-QB8 (fun x=>(t:Int) ^ x*dT l (t:Nat) x c),e0,List.map_append,List.sum_append]at this
    simpa using this
   have e2:=Qg9 (fun(r:Nat->Int)=>r) (fun _=>(t:Int) ^ n) [fun c => -((t:Int)-1)*dT l (t:Nat) n c-(t:Int)*(t:Int) ^ nN l l.length*(if c=n then 1 else 0)] (List.range' 1 n)
   have e3:t ^ n*(dZ ((fun c => -((t:Int)-1)*dT l (t:Nat) n c-(t:Int)*(t:Int) ^ nN l l.length*(if c=n then 1 else 0))::(List.range' 1 (n-1)).map (dT l (t:Nat))) (List.range' 1 n)).natAbs=(dZ ((fun c=>(t:Int) ^ n*(-((t:Int)-1)*dT l (t:Nat) n c-(t:Int)*(t:Int) ^ nN l l.length*(if c=n then 1 else 0)))::(List.range' 1 (n-1)).map (dT l (t:Nat))) (List.range' 1 n)).natAbs:=by
    have e:=Qd4 [] ((List.range' 1 (n-1)).map (dT l (t:Nat))) (fun _=>0) (fun c => -((t:Int)-1)*dT l (t:Nat) n c-(t:Int)*(t:Int) ^ nN l l.length*(if c=n then 1 else 0)) ((t:Int) ^ n) (List.range' 1 n)
    simp only[List.nil_append]at e
    rw[show dZ ((fun _=>(0:Int))::(List.range' 1 (n-1)).map (dT l (t:Nat))) (List.range' 1 n)=0 from QK3 _ _ _ fun _ _=>rfl,Int.zero_add]at e
    have e':=congrArg Int.natAbs e
    rw[Int.natAbs_mul,Int.natAbs_pow,Int.natAbs_natCast]at e'
    rw[<-e']
    congr 3
    funext c
    omega
   rw[e3]
   have e4:=Qv4 (dT l (t:Nat)) (fun x=>((t:Int)-1)*(t:Int) ^ x) (List.range' 1 n) (List.range' 1 (n-1)) (List.range' 1 (n-1)) [] (fun c => -((t:Int) ^ n*((t:Int)*(t:Int) ^ nN l l.length))*(if c=n then 1 else 0)) rfl
   have e5:dZ ((fun c=>(t:Int) ^ n*(-((t:Int)-1)*dT l (t:Nat) n c-(t:Int)*(t:Int) ^ nN l l.length*(if c=n then 1 else 0)))::(List.range' 1 (n-1)).map (dT l (t:Nat))) (List.range' 1 n)=dZ ((fun c => -((t:Int) ^ n*((t:Int)*(t:Int) ^ nN l l.length))*(if c=n then 1 else 0)+((List.range' 1 (n-1)).map fun x=>((t:Int)-1)*(t:Int) ^ x*dT l (t:Nat) x c).sum)::(List.range' 1 (n-1)).map (dT l (t:Nat))) (List.range' 1 n):=by
    refine QH8 _ _ _ _ _ (fun c hc=>?_) fun _ _ _=>rfl
    have hc:=List.mem_range'_1.1 hc
    have hr:=rel c (by omega) (by omega)
    have hs:((List.range' 1 (n-1)).map fun x=>((t:Int)-1)*(t:Int) ^ x*dT l (t:Nat) x c).sum=((t:Int)-1)*((List.range' 1 (n-1)).map fun x=>(t:Int) ^ x*dT l (t:Nat) x c).sum:=by
     rw[QB8,QB8,<-QJ5]
     exact QQ2 fun j _=>by rw[Int.mul_assoc]
    rw[hs]
    generalize ((List.range' 1 (n-1)).map fun x=>(t:Int) ^ x*dT l (t:Nat) x c).sum=S at*
    have:S = -((t:Int) ^ n*dT l (t:Nat) n c):=by omega
    rw[this]
    grind
   rw[e5,e4,block t,Int.natAbs_neg,Int.natAbs_mul,Int.natAbs_mul,Int.natAbs_pow,Int.natAbs_pow,Int.natAbs_natCast,Nat.add_assoc,Nat.pow_add,Nat.pow_succ,Nat.mul_comm t]
 · refine Pq.pow 0 (n-1+(nN l l.length+1)) fun t ht=>?_
   unfold dD
   rw[Nat.pow_zero,Nat.one_mul,Nat.add_sub_cancel]
   have lo:∀ x c,x<n->dT (l++[y]) (t:Nat) x c=(t:Int)*dT l (t:Nat) x c:=fun x c hx=>by
    rw[XX0]
    unfold zS dT
    rw[if_neg q,hy,if_neg (by omega),if_neg (by omega),if_neg q,Int.pow_succ,Int.mul_sub]
    by_cases e:x=c
    · rw[if_pos e,if_pos e,Int.mul_comm ((t:Int) ^ _)]
    · rw[if_neg e,if_neg e,Int.mul_zero]
   have hi:∀ c,c<=n->dT (l++[y]) (t:Nat) n c = -((t:Int) ^ (nN l l.length+1))*(if c=n then 1 else 0):=fun c hc=>by
    rw[XX0]
    unfold zS
    rw[if_neg q,hy,if_pos rfl,if_neg q,void _ c hc]
    by_cases e:n=c
    · rw[if_pos e,if_pos e.symm];omega
    · rw[if_neg e,if_neg (fun z=>e z.symm)];omega
   rw[show dZ ((List.range' 1 n).map (dT (l++[y]) (t:Nat))) (List.range' 1 n)=dZ ((List.range' 1 (n-1)++[n]).map (dT (l++[y]) (t:Nat))) (List.range' 1 n) by rw[<-e0],QD8 (List.perm_append_comm.map _)]
   have e1:dZ (([n]++List.range' 1 (n-1)).map (dT (l++[y]) (t:Nat))) (List.range' 1 n)=dZ ((fun c => -((t:Int) ^ (nN l l.length+1))*(if c=n then 1 else 0))::(List.range' 1 (n-1)).map fun x c=>(t:Int)*dT l (t:Nat) x c) (List.range' 1 n):=by
    refine QH8 _ _ _ _ _ (fun c hc=>hi c (by have:=List.mem_range'_1.1 hc;omega)) fun rest _ hr=>?_
    exact QW2 _ _ _ _ fun x hx c hc=>lo x c (by have:=List.mem_range'_1.1 hx;omega)
   have e6 := Qv5 ((List.range' 1 (n - 1)).map fun x c => (t : Int) * dT l (t : Nat) x c) (List.range' 1 (n - 1)) [fun c => -((t : Int) ^ (nN l l.length + 1)) * (if c = n then 1 else 0)] [n] rfl (fun r hr c hc => by
    have hc:=List.mem_range'_1.1 hc
    rw[List.mem_singleton.1 hr]
    show -((t:Int) ^ (nN l l.length+1))*(if c=n then 1 else 0)=0
    rw[if_neg (by omega),Int.mul_zero])
   rw[e1,show dZ ((fun c => -((t:Int) ^ (nN l l.length+1))*(if c=n then 1 else 0))::(List.range' 1 (n-1)).map fun x c=>(t:Int)*dT l (t:Nat) x c) (List.range' 1 n)=dZ ((fun c => -((t:Int) ^ (nN l l.length+1))*(if c=n then 1 else 0))::(List.range' 1 (n-1)).map fun x c=>(t:Int)*dT l (t:Nat) x c) (List.range' 1 (n-1)++[n]) by rw[<-e0],QW8 _ List.perm_append_comm]
   show(dZ ([fun c => -((t:Int) ^ (nN l l.length+1))*(if c=n then 1 else 0)]++(List.range' 1 (n-1)).map fun x c=>(t:Int)*dT l (t:Nat) x c) ([n]++List.range' 1 (n-1))).natAbs=_
   rw[e6,Int.natAbs_mul,Qg9 (dT l (t:Nat)) (fun _=>(t:Int)),Qv1 t _ (fun _=>1) _ fun x _=>by rw[Int.natAbs_natCast,Nat.pow_one]]
   have hs:∀ L:List Nat,(L.map fun _=>1).sum=L.length:=fun L=>by
    induction L with
    |nil=>rfl
    |cons x L ih=>rw[List.map_cons,List.sum_cons,ih,List.length_cons];omega
   rw[hs,List.length_range']
   have e7:(dZ [fun c => -((t:Int) ^ (nN l l.length+1))*(if c=n then 1 else 0)] [n]).natAbs=t ^ (nN l l.length+1):=by
    show(-((t:Int) ^ (nN l l.length+1))*(if n=n then 1 else 0)*1-0).natAbs=_
    rw[if_pos rfl,Int.mul_one,Int.mul_one,Int.sub_zero,Int.natAbs_neg,Int.natAbs_pow,Int.natAbs_natCast]
   rw[e7,Nat.pow_add t (n-1),<-Nat.mul_assoc,Nat.mul_comm (t ^ (nN l l.length+1))]
end
end Go.Proofs.YtjcagkgpbcdghaaDoor
/- Going around: a letter from the beginning to the end of a word changes nothing. -/
namespace Go.Proofs.YtjcagkgpbcdghaaDoor
theorem Zk0 {n m x y j k:Nat} (h1:1<=x) (h2:x<=n) (h3:1<=y) (h4:y<=n):(ptN n m x j=ptN n m y k)↔(x=y/\j%m=k%m):=by
 obtain⟨a1,a2⟩:=QA1 (n:=n) (m:=m) (k:=j) h1 h2
 obtain⟨b1,b2⟩:=QA1 (n:=n) (m:=m) (k:=k) h3 h4
 constructor
 · intro e
   rw[e]at a1 a2
   omega
 · rintro⟨rfl,e⟩
   unfold ptN
   rw[e]
section
variable {n:Nat} {L R:List Int}
def sgP (n m c:Nat):Nat:=ptN n m ((c-1)%n+1) ((c-1) / n+1)
theorem Kk7 {m x k:Nat} (h1:1<=x) (h2:x<=n):sgP n m (ptN n m x k)=ptN n m x (k%m+1):=by
 obtain⟨a1,a2⟩:=QA1 (n:=n) (m:=m) (k:=k) h1 h2
 unfold sgP
 rw[a1,a2,Nat.sub_add_cancel h1]
theorem Qg4 (k m:Nat):(k%m+1)%m=(k+1)%m:=by rw[Nat.add_mod (k%m),Nat.mod_mod,<-Nat.add_mod]
theorem Xb6 {m c d:Nat} (hn:0<n) (_hm:0<m) (c1:1<=c) (c2:c<=n*m) (d1:1<=d) (d2:d<=n*m) (e:sgP n m c=sgP n m d):c=d:=by
 obtain⟨p1,p2,p3,p4⟩:=ZB1 hn c1 c2
 obtain⟨q1,q2,q3,q4⟩:=ZB1 hn d1 d2
 unfold sgP at e
 obtain⟨e1,e2⟩:=(Zk0 p2 p3 q2 q3).1 e
 rw[<-p4,<-q4]
 refine(Zk0 p2 p3 q2 q3).2 ⟨e1,?_⟩
 rw[Nat.mod_eq_of_lt p1,Nat.mod_eq_of_lt q1]
 exact Xd9 p1 q1 e2
theorem Zv6 {m c:Nat} (hn:0<n) (hm:0<m) (c1:1<=c) (c2:c<=n*m):1<=sgP n m c/\sgP n m c<=n*m:=by
 obtain⟨p1,p2,p3,p4⟩:=ZB1 hn c1 c2
 unfold sgP ptN
 have h3:=Nat.mod_lt ((c-1) / n+1) hm
 have h4:((((c-1) / n+1)%m)+1)*n<=m*n:=Nat.mul_le_mul_right n h3
 rw[Nat.succ_mul,Nat.mul_comm m]at h4
 omega
theorem XB5 {α β:Type} {f:α->β} {l:List α} (hl:l.Nodup) (h:∀ a∈l,∀ b∈l,f a=f b->a=b):(l.map f).Nodup:=by
 unfold List.Nodup
 rw[List.pairwise_map]
 refine List.Pairwise.imp_of_mem ?_ hl
 intro a b ha hb hne e
 exact hne (h a ha b hb e)
theorem KB1 (hw : ∀ j, j < R.length → 1 ≤ (R.getD j 0).natAbs ∧ (R.getD j 0).natAbs < n) (hlen : R.length = L.length) (hg : ∀ k, k < L.length → R.getD k 0 = L.getD ((k + 1) % L.length) 0) (t : Int) {k x : Nat} (hk : k < L.length) (h1 : 1 ≤ x) (h2 : x ≤ n) {c : Nat} (c1 : 1 ≤ c) (c2 : c ≤ n * L.length) :
    rwP R n t (k,x) c=rwP L n t ((k+1)%L.length,x) (sgP n L.length c):=by
 have hx:=hw k (by omega)
 have hm:0<L.length:=by omega
 obtain⟨p1,p2,p3,p4⟩:=ZB1 (n:=n) (m:=L.length) (by omega) c1 c2
 have hx2:=hx
 rw[hg k hk]at hx2
 have ind:∀ y j,1<=y->y<=n->dlP (ptN n L.length y j) c=dlP (ptN n L.length y (j%L.length+1)) (sgP n L.length c):=fun y j a b=>by
  unfold dlP
  rw[<-Kk7 a b]
  have pr:=XU5 (n:=n) (l:=L) (x:=y) (k:=j) hm a b
  by_cases e:ptN n L.length y j=c
  · rw[if_pos e,if_pos (by rw[e])]
  · rw[if_neg e,if_neg fun z=>e (Xb6 (by omega) hm pr.1 pr.2 c1 c2 z)]
 obtain⟨a,b,d,q1,q2,q3⟩:=Qy3 (l:=R) (n:=n) t hx h1 h2
 have su:uR R t k x=uR L t ((k+1)%L.length) x:=by unfold uR;rw[hg k hk]
 have si:∀ Y,inB R t k x Y=inB L t ((k+1)%L.length) x Y:=fun Y=>by unfold inB;rw[hg k hk]
 show uR R t k x*dlP (ptN n R.length x (k+1)) c+inB R t k x (fun y=>dlP (ptN n R.length y k) c)=uR L t ((k+1)%L.length) x*dlP (ptN n L.length x ((k+1)%L.length+1)) (sgP n L.length c)+inB L t ((k+1)%L.length) x (fun y=>dlP (ptN n L.length y ((k+1)%L.length)) (sgP n L.length c))
 rw[hlen,su,ind x (k+1) h1 h2,<-si,q1,q1]
 congr 1
 have pl:∀ y,ptN n L.length y ((k+1)%L.length)=ptN n L.length y (k%L.length+1):=fun y=>by
  unfold ptN
  rw[Nat.mod_mod,Qg4]
 rw[pl,pl,pl,<-ind x k h1 h2]
 have e1:b*dlP (ptN n L.length (x+1) k) c=b*dlP (ptN n L.length (x+1) (k%L.length+1)) (sgP n L.length c):=by
  rcases q2 with q|q
  · rw[q];omega
  · rw[ind _ k (by omega) q]
 have e2:d*dlP (ptN n L.length (x-1) k) c=d*dlP (ptN n L.length (x-1) (k%L.length+1)) (sgP n L.length c):=by
  rcases q3 with q|q
  · rw[q];omega
  · rw[ind _ k q (by omega)]
 rw[e1,e2]
theorem Kd8 (hwL:∀ j,j<L.length->1<=(L.getD j 0).natAbs/\(L.getD j 0).natAbs<n) (hw:∀ j,j<R.length->1<=(R.getD j 0).natAbs/\(R.getD j 0).natAbs<n) (h0:0<L.length) (hn:2<=n) (hlen:R.length=L.length) (hg:∀ k,k<L.length->R.getD k 0=L.getD ((k+1)%L.length) 0):Pq (dD n R) (dD n L):=by
 have hM:n<=n*L.length:=Nat.le_mul_of_pos_right n h0
 have l1:=Qw8 hw (n:=n) (l:=R) (by omega) hn
 have l2:=Qw8 hwL (n:=n) (l:=L) h0 hn
 rw[hlen]at l1
 have hb:((L.length-1,n):Nat×Nat)∈ixP n L.length:=ixP_mem.2 ⟨by simp only;omega,by simp only;omega,Nat.le_refl _⟩
 have hb2:(((L.length-1+1)%L.length,n):Nat×Nat)∈ixP n L.length:=ixP_mem.2 ⟨Nat.mod_lt _ h0,by simp only;omega,Nat.le_refl _⟩
 refine l1.symm.trans (Pq.trans (Pq.rfl' fun t _=>?_) ((XX9 hwL hb2 hb (QV4 (n*L.length) n)).trans l2))
 have nd:=Qw9 n L.length
 -- rows and columns, one on
 have e1:dZ (((ixP n L.length).erase (L.length-1,n)).map (rwP R n (t:Nat))) (QV4 (n*L.length) n)=dZ (((ixP n L.length).erase (L.length-1,n)).map fun e c=>rwP L n (t:Nat) ((e.1+1)%L.length,e.2) (sgP n L.length c)) (QV4 (n*L.length) n):=QW2 _ _ _ _ fun e he c hc=>by
  obtain⟨i1,i2,i3⟩:=ixP_mem.1 (List.mem_of_mem_erase he)
  obtain⟨c1,c2,-⟩:=arcsL_mem.1 hc
  exact KB1 hw hlen hg (t:Nat) i1 i2 i3 c1 c2
 have e2:dZ (((ixP n L.length).erase (L.length-1,n)).map fun e c=>rwP L n (t:Nat) ((e.1+1)%L.length,e.2) (sgP n L.length c)) (QV4 (n*L.length) n)=dZ ((((ixP n L.length).erase (L.length-1,n)).map fun e=>((e.1+1)%L.length,e.2)).map (rwP L n (t:Nat))) ((QV4 (n*L.length) n).map (sgP n L.length)):=by
  rw[XY2,List.map_map,List.map_map]
  rfl
 have tin:∀ a b,a<L.length->b<L.length->(a+1)%L.length=(b+1)%L.length->a=b:=fun a b ha hb e=>Xd9 ha hb e
 have pr:(((ixP n L.length).erase (L.length-1,n)).map fun e=>((e.1+1)%L.length,e.2)).Perm ((ixP n L.length).erase ((L.length-1+1)%L.length,n)):=by
  rw [List.perm_ext_iff_of_nodup (XB5 (nd.erase _) fun a ha b hb e => by
   obtain⟨a1,-,-⟩:=ixP_mem.1 (List.mem_of_mem_erase ha)
   obtain⟨b1,-,-⟩:=ixP_mem.1 (List.mem_of_mem_erase hb)
   obtain⟨q1,q2⟩:=Prod.mk.inj e
   exact Prod.ext (tin _ _ a1 b1 q1) q2) (nd.erase _)]
  intro e
  rw[List.mem_map,nd.mem_erase_iff,ixP_mem]
  constructor
  · rintro⟨f,hf,rfl⟩
    obtain⟨f1,f2⟩:=(nd.mem_erase_iff).1 hf
    obtain⟨g1,g2,g3⟩:=ixP_mem.1 f2
    refine⟨fun q=>f1 ?_,Nat.mod_lt _ h0,g2,g3⟩
    obtain⟨q1,q2⟩:=Prod.mk.inj q
    exact Prod.ext (tin _ _ g1 (by omega) q1) q2
  · rintro⟨f1,f2,f3,f4⟩
    refine⟨((e.1+(L.length-1))%L.length,e.2),(nd.mem_erase_iff).2 ⟨fun q=>f1 ?_,ixP_mem.2 ⟨Nat.mod_lt _ h0,f3,f4⟩⟩,?_⟩
    · obtain⟨q1,q2⟩:=Prod.mk.inj q
      refine Prod.ext ?_ q2
      show e.1=(L.length-1+1)%L.length
      rw[<-q1,Qg4,show e.1+(L.length-1)+1=e.1+L.length by omega,Nat.add_mod_right,Nat.mod_eq_of_lt f2]
    · refine Prod.ext ?_ rfl
      show((e.1+(L.length-1))%L.length+1)%L.length=e.1
      rw[Qg4,show e.1+(L.length-1)+1=e.1+L.length by omega,Nat.add_mod_right,Nat.mod_eq_of_lt f2]
 have sr:=Zv6 (n:=n) (m:=L.length) (c:=n) (by omega) h0 (by omega) hM
 have pc:((QV4 (n*L.length) n).map (sgP n L.length)).Perm (QV4 (n*L.length) (sgP n L.length n)):=by
  have nm:((QV4 (n*L.length) n).map (sgP n L.length)).Nodup:=XB5 (QU0 _ _) fun a ha b hb e=>by
   obtain⟨a1,a2,-⟩:=arcsL_mem.1 ha
   obtain⟨b1,b2,-⟩:=arcsL_mem.1 hb
   exact Xb6 (by omega) h0 a1 a2 b1 b2 e
  rw[List.perm_ext_iff_of_nodup nm (QU0 _ _)]
  intro c
  rw[List.mem_map,arcsL_mem]
  constructor
  · rintro⟨a,ha,rfl⟩
    obtain⟨a1,a2,a3⟩:=arcsL_mem.1 ha
    have r:=Zv6 (n:=n) (m:=L.length) (by omega) h0 a1 a2
    exact⟨r.1,r.2,fun z=>a3 (Xb6 (by omega) h0 a1 a2 (by omega) hM z)⟩
  · rintro⟨c1,c2,c3⟩
    obtain⟨p1,p2,p3,p4⟩:=ZB1 (n:=n) (m:=L.length) (by omega) c1 c2
    have pa:=XU5 (n:=n) (l:=L) (x:=(c-1)%n+1) (k:=(c-1) / n+(L.length-1)) h0 p2 p3
    have es:sgP n L.length (ptN n L.length ((c-1)%n+1) ((c-1) / n+(L.length-1)))=c:=by
     rw[Kk7 p2 p3]
     refine Eq.trans ?_ p4
     refine(Zk0 p2 p3 p2 p3).2 ⟨rfl,?_⟩
     rw[Qg4,show(c-1) / n+(L.length-1)+1=(c-1) / n+L.length by omega,Nat.add_mod_right]
    exact⟨_,arcsL_mem.2 ⟨pa.1,pa.2,fun z=>c3 (by rw[<-es,z])⟩,es⟩
 rw[e1,e2,QW8 _ pc,QD8 (pr.map _)]
 refine Qd0 (fun r hr=>?_) sr.1 sr.2 (by omega) hM
 obtain⟨e,he,rfl⟩:=List.mem_map.1 hr
 exact Zw2 hwL (t:Nat) (List.mem_of_mem_erase he)
end
theorem JK6 {n:Nat} {l:List Int} {y:Int} (hn:2<=n) (hw:∀ j,j<(y::l).length->1<=((y::l).getD j 0).natAbs/\((y::l).getD j 0).natAbs<n):Pq (dD n (l++[y])) (dD n (y::l)):=by
 have hg:∀ k,k<(y::l).length->(l++[y]).getD k 0=(y::l).getD ((k+1)%(y::l).length) 0:=fun k hk=>by
  rw[List.length_cons]at hk ⊢
  by_cases q:k<l.length
  · rw[Nat.mod_eq_of_lt (by omega),XK7 l [y] q]
    simp[List.getD]
  · obtain rfl:k=l.length:=by omega
    rw[Nat.mod_self]
    exact XK6 l [y] 0
 refine Kd8 hw (fun j hj=>?_) (by simp) hn (by simp) hg
 rw[hg j (by simpa using hj)]
 exact hw _ (Nat.mod_lt _ (by simp))
end Go.Proofs.YtjcagkgpbcdghaaDoor
/- Alexander's polynomial along Markov's moves. -/
namespace Go.Proofs.YtjcagkgpbcdghaaDoor
def QV3 (v:List Int):List Int:=(v.map fun x => -x).reverse
theorem Xj2 (y:Int) (v:List Int):QV3 (y::v)=QV3 v++[-y]:=by
 unfold QV3
 rw[List.map_cons,List.reverse_cons]
def QH1 (n:Nat) (l:List Int):Prop:=∀ j,j<l.length->1<=(l.getD j 0).natAbs/\(l.getD j 0).natAbs<n
theorem wd_iff {n:Nat} {l:List Int}:QH1 n l↔∀ x∈l,1<=x.natAbs/\x.natAbs<n:=by
 constructor
 · intro h x hx
   obtain⟨i,hi,rfl⟩:=List.getElem_of_mem hx
   have:=h i hi
   rwa [XW9 l 0 hi]at this
 · intro h j hj
   exact h _ (Qj8 l 0 hj)
theorem Xx6 {n:Nat} {l:List Int} (h:QH1 n l):QH1 n (QV3 l):=wd_iff.2 fun x hx=>by
 unfold QV3 at hx
 obtain⟨y,hy,rfl⟩:=List.mem_map.1 (List.mem_reverse.1 hx)
 rw[Int.natAbs_neg]
 exact wd_iff.1 h y hy
theorem QA9 {n:Nat} {l r:List Int} (h:QH1 n l) (h':QH1 n r):QH1 n (l++r):=wd_iff.2 fun x hx=>by
 rcases List.mem_append.1 hx with q|q
 · exact wd_iff.1 h x q
 · exact wd_iff.1 h' x q
theorem Zb8 {n:Nat} (hn:2<=n):∀ (v w:List Int),QH1 n v->QH1 n w->Pq (dD n (v++w++QV3 v)) (dD n w)
 |[],w,_,_=>by
  rw[show([]++w++QV3 [])=w by simp[QV3]]
  exact Pq.rfl' fun _ _=>rfl
 |y::v,w,hv,hw=>by
  have hv':QH1 n v:=wd_iff.2 fun x hx=>wd_iff.1 hv x (.tail _ hx)
  have hy:=wd_iff.1 hv y (.head _)
  have e:(y::v)++w++QV3 (y::v)=y::(v++w++QV3 v++[-y]):=by rw[Xj2];simp
  have ok:QH1 n (y::(v++w++QV3 v++[-y])):=by
   rw[<-e]
   exact QA9 (QA9 hv hw) (Xx6 hv)
  have t:=JK6 hn ok
  have p:=JK7 n (v++w++QV3 v) (y := -y) (by omega)
  rw[Int.neg_neg]at p
  rw[e]
  exact t.symm.trans (p.trans (Zb8 hn v w hv' hw))
theorem KZ5 {n:Nat} (h2:2<=n) (h5:n<=5):QV5 [] n≠1:=by
 have c:n=2∨n=3∨n=4∨n=5:=by omega
 rcases c with rfl|rfl|rfl|rfl
 · decide +kernel
 · decide +kernel
 · decide +kernel
 · decide +kernel
theorem ZY6 {n:Nat} {l:List Int} (hw:QH1 n l) (h2:2<=n) (h5:n<=5) (h16:l.length<=16) {a:List (Int×Int)} (hA:IsAlex (QV6 l n) (QV5 l n) a):UnL a/\Pq (fun t=>(vlT t a).natAbs) (dD n l):=by
 have h:=XH2 hw h2 h5
 have hl:=h.len
 have hno:=Qy6 hw h2 h5 h16
 have hm:QX3 (QV6 l n) (QV5 l n)=true:=by
  cases q:QX3 (QV6 l n) (QV5 l n:Nat) with
  |true=>rfl
  |false=>
   unfold noN at hno
   rw[q,if_neg (by decide)]at hno
   cases hno
 have void:UnL []:=⟨List.Pairwise.nil,(fun u hu=>by cases hu),Or.inl rfl⟩
 by_cases hc:QV5 l n=0
 · have hu:∀ x,1<=x->x<=n->∃ k,k<l.length/\Tch l x k:=fun x q1 q2=>XD1 hw h2 h5 hc q1 q2
   have h0:0<l.length:=by
    obtain⟨k,hk,-⟩:=hu 1 (by omega) (by omega)
    omega
   obtain⟨u2,i,hv⟩:=Kx5 hm (XF1 h hm) (by omega) (by omega) hA
   exact ⟨u2, (Pq.pow i 0 (F := fun t => (vlT t a).natAbs) (G := fun t => (dZ (XW6 (QV6 l n) (t : Nat)) (QV4 (2 * (QV6 l n).length) 1)).natAbs) fun t ht => by
    show t ^ i*(vlT t a).natAbs=t ^ 0*(dZ (XW6 (QV6 l n) (t:Nat)) (QV4 (2*(QV6 l n).length) 1)).natAbs
    rw[hv t ht,Nat.pow_zero,Nat.one_mul]).trans (Zx0 h hm h0 h2 hu)⟩
 · have ha : a = [] := by
     unfold IsAlex at hA
     rw [if_neg (fun z => by
      have hl0:l.length=0:=by rw[<-hl];exact z.1
      have h1:QV5 l n=1:=by have:=z.2;omega
      rw[List.length_eq_zero_iff.1 hl0]at h1
      exact KZ5 h2 h5 h1),if_pos (Or.inr (Or.inl (by omega)))]at hA
     exact hA
   refine⟨by rw[ha];exact void,Pq.rfl' fun t ht=>?_⟩
   rw[ha]
   show 0=dD n l t
   obtain⟨x,x1,x2,hx⟩:=ZA2 hw h2 h5 hc
   unfold dD
   by_cases h0:0<l.length
   · rw[JK5 hw h0 h2 x1 x2 hx ht];rfl
   · have z : ∀ i ∈ List.range' 1 (n - 1), ∀ c ∈ List.range' 1 (n - 1), dT l (t : Nat) i c = (fun (_ : Nat) (_ : Nat) => (0 : Int)) i c := fun i _ c _ => by
       unfold dT
       rw[show l.length=0 by omega]
       show(if i=c then(1:Int) else 0)-(if i=c then(t:Int) ^ 0 else 0)=0
       rw[Int.pow_zero];omega
     rw[QW2 _ _ _ _ z]
     obtain⟨p,hp⟩:∃ p,n - 1=p+1:=⟨n - 2,by omega⟩
     rw[hp,List.range'_succ,List.map_cons]
     show 0=(QK5 _ _ _).natAbs
     rw[QK3 _ _ _ fun _ _=>rfl]
     rfl
theorem Zf3 {n n':Nat} {l l':List Int} (hw:QH1 n l) (hw':QH1 n' l') (h2:2<=n) (h5:n<=5) (h2':2<=n') (h5':n'<=5) (h16:l.length<=16) (h16':l'.length<=16) (hp:Pq (dD n l) (dD n' l')) {a b:List (Int×Int)} (hA:IsAlex (QV6 l n) (QV5 l n) a) (hB:IsAlex (QV6 l' n') (QV5 l' n') b):a=b:=by
 obtain⟨u1,p1⟩:=ZY6 hw h2 h5 h16 hA
 obtain⟨u2,p2⟩:=ZY6 hw' h2' h5' h16' hB
 obtain⟨e,f,h⟩:=p1.trans (hp.trans p2.symm)
 exact ZK8 (a:=e) (b:=f) u1 u2 fun t ht=>h t ht
end Go.Proofs.YtjcagkgpbcdghaaDoor
/- States of a closed braid by labels of places: they have as many rings. -/
namespace Go.Proofs.YtjcagkgpbcdghaaDoor
theorem Kw0 {E:List (Nat×Nat)} {M u:Nat} (hE:InE E M) (hu:u<M):kN (E++[(M,u)]) (M+1)=kN E M:=by
 refine XY0 (φ:=fun v=>if v=M then u else v) (ψ:=fun v=>v) (fun e he=>?_) hE (fun v hv=>by show(if v=M then u else v)<M;split<;>omega) (fun v hv=>by show v<M+1;omega) (fun e he=>?_) (fun e he=>?_) (fun v hv=>?_) (fun v hv=>?_)
 · rcases List.mem_append.1 he with q|q
   · have:=hE e q;omega
   · rw[List.mem_singleton.1 q];exact⟨Nat.lt_succ_self M,by show u<M+1;omega⟩
 · rcases List.mem_append.1 he with q|q
   · have:=hE e q
     show Con E (if e.1=M then u else e.1) (if e.2=M then u else e.2)
     rw[if_neg (by omega),if_neg (by omega)]
     exact Con.edge q
   · rw[List.mem_singleton.1 q]
     show Con E (if M=M then u else M) (if u=M then u else u)
     rw[if_pos rfl,ite_self]
     exact Con.refl _ _
 · exact Con.edge (List.mem_append_left _ he)
 · show Con E (if v=M then u else v) v
   rw[if_neg (by omega)]
   exact Con.refl _ _
 · show Con _ (if v=M then u else v) v
   by_cases q:v=M
   · rw[if_pos q,q]
     exact(Con.edge (List.mem_append_right _ (.head _))).symm
   · rw[if_neg q]
     exact Con.refl _ _
theorem lone {E:List (Nat×Nat)} {x u:Nat} (h:∀ e,e∈E->e.1≠x/\e.2≠x) (hu:u≠x):¬ Con E x u:=fun c=>by
 have:=c (fun z=>z=x) (fun e he=>by have:=h e he;constructor<;>intro q<;>first|exact absurd q this.1|exact absurd q this.2) rfl
 exact hu this
theorem Kv9 {E:List (Nat×Nat)} {M:Nat} (hE:InE E M) (hM:0<M):kN E (M+1)=kN E M+1:=by
 have h1:=XG8 (E:=E) (M:=M+1) (a:=M) (b:=0) (fun e he=>by have:=hE e he;omega) (by omega) (by omega) (lone (fun e he=>by have:=hE e he;omega) (by omega))
 rw[Kw0 hE hM]at h1
 omega
def lbF (f:Nat->Nat) (o:Nat) (l:List Int) (σ:Nat->Bool):Nat->Nat->Nat
 |0,p=>f p
 |k+1,p=>if σ k=true/\(p=(l.getD k 0).natAbs∨p=(l.getD k 0).natAbs+1) then o+k else lbF f o l σ k p
def lbE (f:Nat->Nat) (o:Nat) (l:List Int) (σ:Nat->Bool) (k:Nat):Nat×Nat:=
 if σ k=true then(lbF f o l σ k (l.getD k 0).natAbs,lbF f o l σ k ((l.getD k 0).natAbs+1)) else(o+k,0)
def gL (n:Nat) (l:List Int) (σ:Nat->Bool):List (Nat×Nat):=
 (List.range l.length).map (lbE (fun p=>p) 6 l σ)++((List.range' 1 n).map (fun p=>(lbF (fun p=>p) 6 l σ l.length p,p))++(List.range' (n+1) (5-n)).map fun p=>(p,0))
theorem Zz6 {f:Nat->Nat} {o B:Nat} {l:List Int} {σ:Nat->Bool} (hf:∀ p,p<6->f p<B):∀ k,(0<k->o+k<=B)->∀ p,p<6->lbF f o l σ k p<B
 |0,_,p,hp=>hf p hp
 |k+1,hk,p,hp=>by
  have:=hk (by omega)
  unfold lbF
  split
  · omega
  · exact Zz6 hf k (fun _=>by omega) p hp
theorem Jz3 {n:Nat} {l:List Int} {σ:Nat->Bool} (hw:QH1 n l) (h5:n<=5):InE (gL n l σ) (6+l.length):=fun e he=>by
 have lt:∀ k,k<=l.length->∀ p,p<6->lbF (fun p=>p) 6 l σ k p<6+l.length:=fun k hk p hp=>Zz6 (fun p hp=>by omega) k (fun _=>by omega) p hp
 rcases List.mem_append.1 he with he|he
 · obtain⟨k,hk,rfl⟩:=List.mem_map.1 he
   have hk:=List.mem_range.1 hk
   have hx:=hw k hk
   unfold lbE
   split
   · exact⟨lt k (by omega) _ (by omega),lt k (by omega) _ (by omega)⟩
   · exact⟨by show 6+k<_;omega,by show 0<_;omega⟩
 · rcases List.mem_append.1 he with he|he
   · obtain⟨p,hp,rfl⟩:=List.mem_map.1 he
     have hp:=List.mem_range'_1.1 hp
     exact⟨lt _ (Nat.le_refl _) _ (by omega),by show p<_;omega⟩
   · obtain⟨p,hp,rfl⟩:=List.mem_map.1 he
     have hp:=List.mem_range'_1.1 hp
     exact⟨by show p<_;omega,by show 0<_;omega⟩
section
variable {n:Nat} {l:List Int} {σ:Nat->Bool}
theorem Kw6 {k:Nat} (hk:k<l.length):Con (gL n l σ) (lbE (fun p=>p) 6 l σ k).1 (lbE (fun p=>p) 6 l σ k).2:=Con.edge (List.mem_append_left _ (List.mem_map.2 ⟨k,List.mem_range.2 hk,rfl⟩))
theorem Zy7 {p:Nat} (h1:1<=p) (h2:p<=n):Con (gL n l σ) (lbF (fun p=>p) 6 l σ l.length p) p:=Con.edge (List.mem_append_right _ (List.mem_append_left _ (List.mem_map.2 ⟨p,List.mem_range'_1.2 (by omega),rfl⟩)))
theorem JZ4 {p:Nat} (h1:n<p) (h2:p<=5):Con (gL n l σ) p 0:=Con.edge (List.mem_append_right _ (List.mem_append_right _ (List.mem_map.2 ⟨p,List.mem_range'_1.2 (by omega),rfl⟩)))
theorem XK1 (f:Nat->Nat) (o:Nat) {k p:Nat} (h:¬ Tch l p k):lbF f o l σ (k+1) p=lbF f o l σ k p:=by
 show(if _ then _ else _)=_
 rw[if_neg fun q=>h q.2]
theorem Kv7 (f:Nat->Nat) (o:Nat) {k p:Nat} (h:σ k=false):lbF f o l σ (k+1) p=lbF f o l σ k p:=by
 show(if _ then _ else _)=_
 rw[if_neg fun q=>by rw[h]at q;exact absurd q.1 (by decide)]
theorem XG6 (f:Nat->Nat) (o:Nat) {k p:Nat} (h:σ k=true) (ht:Tch l p k):lbF f o l σ (k+1) p=o+k:=by
 show(if _ then _ else _)=_
 rw[if_pos ⟨h,ht⟩]
theorem ZW8 (f:Nat->Nat) (o:Nat) {p:Nat} (h:∀ k,k<l.length->¬ Tch l p k):∀ k,k<=l.length->lbF f o l σ k p=f p
 |0,_=>rfl
 |k+1,hk=>by rw[XK1 f o (h k (by omega)),ZW8 f o h k (by omega)]
theorem JX1 (x:Nat) (z:Nat) (h1:1<=x) (h2:x<=n):JU4 l x fun k=>Con (gL n l σ) z (lbF (fun p=>p) 6 l σ k x):=
 ⟨fun j _ ht=>by simp only[XK1 (fun p=>p) 6 ht],propext ⟨fun q=>q.trans (Zy7 h1 h2),fun q=>q.trans (Zy7 h1 h2).symm⟩⟩
end
def arG (C:List Cr) (s:Nat):List (Nat×Nat):=(List.range (2*C.length)).map (prS (arN C) s)
def plE (A:Nat->Nat->Nat) (l:List Int) (n M:Nat):Nat->List (Nat×Nat)
 |0=>[]
 |j+1=>plE A l n M j++(if j=0∨n<j then [(M+j,0)] else if(List.range l.length).any (fun k=>decide (j=(l.getD k 0).natAbs∨j=(l.getD k 0).natAbs+1))=true then [(M+j,A j 0)] else [])
def vdN (l:List Int) (n:Nat):Nat->Nat
 |0=>0
 |j+1=>vdN l n j+if j=0∨n<j∨(List.range l.length).any (fun k=>decide (j=(l.getD k 0).natAbs∨j=(l.getD k 0).natAbs+1))=true then 0 else 1
theorem any_tch {l:List Int} {x:Nat}:(List.range l.length).any (fun k=>decide (x=(l.getD k 0).natAbs∨x=(l.getD k 0).natAbs+1))=true↔∃ k,k<l.length/\Tch l x k:=by
 rw[List.any_eq_true]
 constructor
 · rintro⟨k,hk,e⟩
   exact⟨k,List.mem_range.1 hk,by have e2:decide (x=(l.getD k 0).natAbs∨x=(l.getD k 0).natAbs+1)=true:=e;have e3:=of_decide_eq_true e2;exact e3⟩
 · rintro⟨k,hk,e⟩
   exact⟨k,List.mem_range.2 hk,by have e2:x=(l.getD k 0).natAbs∨x=(l.getD k 0).natAbs+1:=e;exact decide_eq_true e2⟩
theorem XH6 {A:Nat->Nat->Nat} {l:List Int} {n M:Nat} {E:List (Nat×Nat)} (hE:InE E M) (hM:0<M) (hA:∀ j,1<=j->j<=n->(∃ k,k<l.length/\Tch l j k)->A j 0<M):∀ j,InE (E++plE A l n M j) (M+j)/\kN (E++plE A l n M j) (M+j)=kN E M+vdN l n j
 |0=>by
  rw[show plE A l n M 0=[] from rfl,List.append_nil]
  exact⟨hE,rfl⟩
 |j+1=>by
  obtain⟨i1,i2⟩:=XH6 hE hM hA j
  have one:∀ u,u<M->InE (E++(plE A l n M j++[(M+j,u)])) (M+(j+1))/\kN (E++(plE A l n M j++[(M+j,u)])) (M+(j+1))=kN E M+vdN l n j:=fun u hu=>by
   rw[<-List.append_assoc]
   refine⟨fun e he=>?_,by rw[show M+(j+1)=M+j+1 from rfl,Kw0 i1 (by omega),i2]⟩
   rcases List.mem_append.1 he with q|q
   · have:=i1 e q;omega
   · rw[List.mem_singleton.1 q];exact⟨by show M+j<M+(j+1);omega,by show u<_;omega⟩
  show InE (E++(plE A l n M j++_)) _/\kN (E++(plE A l n M j++_)) _=kN E M+(vdN l n j+_)
  by_cases q:j=0∨n<j
  · rw[if_pos q,if_pos (by omega)]
    exact one 0 hM
  · rw[if_neg q]
    by_cases g:(List.range l.length).any (fun k=>decide (j=(l.getD k 0).natAbs∨j=(l.getD k 0).natAbs+1))=true
    · rw[if_pos g,if_pos (Or.inr (Or.inr g))]
      exact one _ (hA j (by omega) (by omega) (any_tch.1 g))
    · rw[if_neg g,if_neg (by rintro(a|a|a)<;>first|exact q (Or.inl a)|exact q (Or.inr a)|exact g a),List.append_nil]
      refine⟨fun e he=>by have:=i1 e he;omega,?_⟩
      rw[show M+(j+1)=M+j+1 from rfl,Kv9 i1 (by omega),i2]
      omega
end Go.Proofs.YtjcagkgpbcdghaaDoor
/- States of a closed braid: as many rings as the graph of labels has classes. -/
namespace Go.Proofs.YtjcagkgpbcdghaaDoor
def sgS (l:List Int) (s k:Nat):Bool:=decide (s / 2 ^ k%2=1) != decide (0<l.getD k 0)
section
variable {C:List Cr} {A:Nat->Nat->Nat} {l:List Int} {n:Nat} (h:Clo l n C A) {loops:Int} (hm:QX3 C loops=true) (h5:n<=5)
def phX (C:List Cr) (l:List Int) (σ:Nat->Bool) (u:Nat):Nat:=
 if 2*C.length+1<=u then u-(2*C.length+1) else if u=0 then 0 else lbF (fun p=>p) 6 l σ (enC C u true) (sdP l (enC C u true) (enS C u true)).1
def psX (A:Nat->Nat->Nat) (l:List Int) (σ:Nat->Bool) (v:Nat):Nat:=
 if v<6 then 2*l.length+1+v else if σ (v-6)=true then A (l.getD (v-6) 0).natAbs (v-6+1) else 0
include h hm
theorem Kb6 {a:Nat} (h1:1<=a) (h2:a<=2*C.length):enC C a true<l.length/\∃ z,z<2/\(sdP l (enC C a true) (enS C a true)).1=(l.getD (enC C a true) 0).natAbs+z/\A ((l.getD (enC C a true) 0).natAbs+z) (enC C a true)=a:=by
 have hl:=h.len
 obtain⟨-,e2,e3,e4,e5⟩:=QJ3 hm a true h1 h2
 obtain⟨f1,z,hz,f2,f3⟩:=Qj7 h (k:=enC C a true) (s:=enS C a true) (by omega) e3
 refine⟨by omega,z,hz,f2,?_⟩
 have f4:(sdP l (enC C a true) (enS C a true)).2=enC C a true:=f3.elim (fun q=>q.2) (fun q=>by rw[e5]at q;cases q.1)
 rw[f4,f2]at f1
 omega
theorem Jx8 {k r:Nat} (hk:k<l.length) (hr:r<2):enC C (A ((l.getD k 0).natAbs+r) k) true=k/\(sdP l k (enS C (A ((l.getD k 0).natAbs+r) k) true)).1=(l.getD k 0).natAbs+r:=by
 have hl:=h.len
 have hx:=h.rng k hk r hr
 obtain⟨a1,z,hz,a2,a3⟩:=Kb6 h hm hx.1 (by omega)
 obtain⟨e,e2⟩:=h.inj _ z k r a1 hz hk hr a3
 rw[e]at a2
 exact⟨e,by rw[a2,e2]⟩
theorem JY1 {σ:Nat->Bool} {x j:Nat} (h1:1<=x) (h2:x<=n) (hj:j<=l.length) (ht:∃ k,k<l.length/\Tch l x k):Con (gL n l σ) (phX C l σ (A x j)) (lbF (fun p=>p) 6 l σ j x):=by
 have hl:=h.len
 obtain⟨i,i1,i2,i3⟩:=reach ht hj
 have e1:=i3 _ (h.stay h1 h2)
 have e2:=i3 _ (JX1 (n:=n) (l:=l) (σ:=σ) x (lbF (fun p=>p) 6 l σ j x) h1 h2)
 have e3:Con (gL n l σ) (lbF (fun p=>p) 6 l σ j x) (lbF (fun p=>p) 6 l σ i x):=e2▸Con.refl _ _
 obtain⟨r,hr,rfl⟩:∃ r,r<2/\x=(l.getD i 0).natAbs+r:=by
  rcases i2 with q|q
  · exact⟨0,by decide,q⟩
  · exact⟨1,by decide,q⟩
 obtain⟨g1,g2⟩:=Jx8 h hm i1 hr
 have g3:=h.rng i i1 r hr
 have e4:phX C l σ (A ((l.getD i 0).natAbs+r) j)=lbF (fun p=>p) 6 l σ i ((l.getD i 0).natAbs+r):=by
  rw[e1]
  unfold phX
  rw[if_neg (by omega),if_neg (by omega),g1,g2]
 rw[e4]
 exact e3.symm
omit hm in
theorem ZZ4 {s k : Nat} (hk : k < l.length) : let i := (l.getD k 0).natAbs
    (sgS l s k=true->∃ t,t<2/\(prS (arN C) s (2*k+t)=(A i k,A (i+1) k)∨prS (arN C) s (2*k+t)=(A (i+1) k,A i k))/\(prS (arN C) s (2*k+(1-t))=(A i (k+1),A (i+1) (k+1))∨prS (arN C) s (2*k+(1-t))=(A (i+1) (k+1),A i (k+1))))/\
    (sgS l s k=false->∃ t,t<2/\(prS (arN C) s (2*k+t)=(A i k,A i (k+1))∨prS (arN C) s (2*k+t)=(A i (k+1),A i k))/\(prS (arN C) s (2*k+(1-t))=(A (i+1) k,A (i+1) (k+1))∨prS (arN C) s (2*k+(1-t))=(A (i+1) (k+1),A (i+1) k))):=by
 intro i
 have e:∀ s,s<4->arN C k s=A (sdP l k s).1 (sdP l k s).2:=fun s hs=>by
  obtain⟨f1,-⟩:=Qj7 h hk hs
  unfold arN
  omega
 have p0:=KU7 (arN C) s k
 have p1:=KU8 (arN C) s k
 rw[e 0 (by decide),e 1 (by decide),e 2 (by decide)]at p0
 rw[e 2 (by decide),e 3 (by decide),e 0 (by decide)]at p1
 have c0:sgS l s k=(decide (s / 2 ^ k%2=1) != decide (0<l.getD k 0)):=rfl
 by_cases q:0<l.getD k 0
 · by_cases b:s / 2 ^ k%2=1
   · rw[decide_eq_true q,decide_eq_true b]at c0
     rw[if_pos b]at p0 p1
     simp only[sdP,if_pos q]at p0 p1
     refine⟨fun c=>by rw[c0]at c;simp at c,fun _=>⟨1,by decide,?_,?_⟩⟩
     · exact Or.inr p1
     · exact Or.inl p0
   · rw[decide_eq_true q,decide_eq_false b]at c0
     rw[if_neg b]at p0 p1
     simp only[sdP,if_pos q]at p0 p1
     refine⟨fun _=>⟨1,by decide,?_,?_⟩,fun c=>by rw[c0]at c;simp at c⟩
     · exact Or.inl p1
     · exact Or.inr p0
 · by_cases b:s / 2 ^ k%2=1
   · rw[decide_eq_false q,decide_eq_true b]at c0
     rw[if_pos b]at p0 p1
     simp only[sdP,if_neg q]at p0 p1
     refine⟨fun _=>⟨0,by decide,?_,?_⟩,fun c=>by rw[c0]at c;simp at c⟩
     · exact Or.inl p0
     · exact Or.inr p1
   · rw[decide_eq_false q,decide_eq_false b]at c0
     rw[if_neg b]at p0 p1
     simp only[sdP,if_neg q]at p0 p1
     refine⟨fun c=>by rw[c0]at c;simp at c,fun _=>⟨1,by decide,?_,?_⟩⟩
     · exact Or.inr p1
     · exact Or.inl p0
end
end Go.Proofs.YtjcagkgpbcdghaaDoor
/- States of a closed braid: as many rings as the graph of labels has classes (2). -/
namespace Go.Proofs.YtjcagkgpbcdghaaDoor
def gX (C:List Cr) (A:Nat->Nat->Nat) (l:List Int) (n s:Nat):List (Nat×Nat):=arG C s++plE A l n (2*l.length+1) 6
theorem Xx7 (A:Nat->Nat->Nat) (l:List Int) (n M:Nat):∀ i,(∀ e,e∈plE A l n M i->∃ j,j<i/\((e=(M+j,0)/\(j=0∨n<j))∨(e=(M+j,A j 0)/\1<=j/\j<=n/\∃ k,k<l.length/\Tch l j k)))/\(∀ j,j<i->((j=0∨n<j)->(M+j,0)∈plE A l n M i)/\(1<=j->j<=n->(∃ k,k<l.length/\Tch l j k)->(M+j,A j 0)∈plE A l n M i))
 |0=>⟨fun e he=>(by cases he),fun j hj=>by omega⟩
 |i+1=>by
  obtain⟨i1,i2⟩:=Xx7 A l n M i
  show(∀ e,e∈plE A l n M i++_->_)/\∀ j,_->_/\_
  constructor
  · intro e he
    rcases List.mem_append.1 he with q|q
    · obtain⟨j,hj,g⟩:=i1 e q
      exact⟨j,by omega,g⟩
    · refine⟨i,Nat.lt_succ_self _,?_⟩
      by_cases c:i=0∨n<i
      · rw[if_pos c]at q
        exact Or.inl ⟨List.mem_singleton.1 q,c⟩
      · rw[if_neg c]at q
        split at q
        · rename_i g
          exact Or.inr ⟨List.mem_singleton.1 q,by omega,by omega,any_tch.1 g⟩
        · cases q
  · intro j hj
    by_cases e:j=i
    · subst e
      refine⟨fun c=>List.mem_append_right _ ?_,fun h1 h2 ht=>List.mem_append_right _ ?_⟩
      · rw[if_pos c];exact .head _
      · rw[if_neg (by omega),if_pos (any_tch.2 ht)];exact .head _
    · obtain⟨g1,g2⟩:=i2 j (by omega)
      exact⟨fun c=>List.mem_append_left _ (g1 c),fun h1 h2 ht=>List.mem_append_left _ (g2 h1 h2 ht)⟩
section
variable {C:List Cr} {A:Nat->Nat->Nat} {l:List Int} {n:Nat} (h:Clo l n C A) {loops:Int} (hm:QX3 C loops=true) (h5:n<=5) (s:Nat)
include h
theorem KY1 {i:Nat} (hi:i<2*l.length):Con (gX C A l n s) (prS (arN C) s i).1 (prS (arN C) s i).2:=
 Con.edge (List.mem_append_left _ (List.mem_map.2 ⟨i,List.mem_range.2 (by have:=h.len;omega),rfl⟩))
theorem Kw5 {k:Nat} (hk:k<l.length) (hs:sgS l s k=true):Con (gX C A l n s) (A (l.getD k 0).natAbs k) (A ((l.getD k 0).natAbs+1) k)/\Con (gX C A l n s) (A (l.getD k 0).natAbs (k+1)) (A ((l.getD k 0).natAbs+1) (k+1)):=by
 obtain⟨t,ht,e1,e2⟩:=(ZZ4 h (s:=s) hk).1 hs
 have p:=KY1 h s (i:=2*k+t) (by omega)
 have q:=KY1 h s (i:=2*k+(1-t)) (by omega)
 constructor
 · rcases e1 with e|e<;>rw[e]at p
   · exact p
   · exact p.symm
 · rcases e2 with e|e<;>rw[e]at q
   · exact q
   · exact q.symm
theorem Jz1 {k:Nat} (hk:k<l.length) (hs:sgS l s k=false):Con (gX C A l n s) (A (l.getD k 0).natAbs k) (A (l.getD k 0).natAbs (k+1))/\Con (gX C A l n s) (A ((l.getD k 0).natAbs+1) k) (A ((l.getD k 0).natAbs+1) (k+1)):=by
 obtain⟨t,ht,e1,e2⟩:=(ZZ4 h (s:=s) hk).2 hs
 have p:=KY1 h s (i:=2*k+t) (by omega)
 have q:=KY1 h s (i:=2*k+(1-t)) (by omega)
 constructor
 · rcases e1 with e|e<;>rw[e]at p
   · exact p
   · exact p.symm
 · rcases e2 with e|e<;>rw[e]at q
   · exact q
   · exact q.symm
omit h in
theorem Xx3 {σ:Nat->Bool} {v:Nat} (hv:v<6):psX A l σ v=2*l.length+1+v:=if_pos hv
omit h in
theorem Kb3 {σ:Nat->Bool} {k:Nat} (hs:σ k=true):psX A l σ (6+k)=A (l.getD k 0).natAbs (k+1):=by
 unfold psX
 rw[if_neg (by omega),show 6+k-6=k by omega,if_pos hs]
omit h in
theorem Kb2 {σ:Nat->Bool} {k:Nat} (hs:σ k=false):psX A l σ (6+k)=0:=by
 unfold psX
 rw[if_neg (by omega),show 6+k-6=k by omega,hs];rfl
include h5 in
theorem ZB2 {x:Nat} (h1:1<=x) (h2:x<=n) (ht:∃ k,k<l.length/\Tch l x k):∀ j,j<=l.length->Con (gX C A l n s) (psX A l (sgS l s) (lbF (fun p=>p) 6 l (sgS l s) j x)) (A x j)
 |0,_=>by
  show Con _ (psX A l (sgS l s) x) _
  rw[Xx3 (by omega)]
  exact Con.edge (List.mem_append_right _ (((Xx7 A l n (2*l.length+1) 6).2 x (by omega)).2 h1 h2 ht))
 |j+1,hj=>by
  have ih:=ZB2 h1 h2 ht j (by omega)
  by_cases t:Tch l x j
  · cases hs:sgS l s j with
    |true=>
     rw[XG6 _ _ hs t,Kb3 hs]
     have:=(Kw5 h s (show j<l.length by omega) hs).2
     rcases t with q|q<;>rw[q]
     · exact Con.refl _ _
     · exact this
    |false=>
     rw[Kv7 _ _ hs]
     refine ih.trans ?_
     have:=Jz1 h s (show j<l.length by omega) hs
     rcases t with q|q<;>rw[q]
     · exact this.1
     · exact this.2
  · rw[XK1 _ _ t,h.still j (by omega) x h1 h2 (fun e=>t (Or.inl e)) (fun e=>t (Or.inr e))]
    exact ih
include hm h5
theorem Jz0:kN (gX C A l n s) (2*l.length+1+6)=kN (gL n l (sgS l s)) (6+l.length):=by
 have hl:=h.len
 have hw:QH1 n l:=h.lets
 have tch:∀ k,k<l.length->∀ r,r<2->∃ j,j<l.length/\Tch l ((l.getD k 0).natAbs+r) j:=fun k hk r hr=>⟨k,hk,by unfold Tch;omega⟩
 have ph:∀ k,k<l.length->∀ r,r<2->∀ j,j<=l.length->Con (gL n l (sgS l s)) (phX C l (sgS l s) (A ((l.getD k 0).natAbs+r) j)) (lbF (fun p=>p) 6 l (sgS l s) j ((l.getD k 0).natAbs+r)):=fun k hk r hr j hj=>by
  have:=hw k hk
  exact JY1 h hm (by omega) (by omega) hj (tch k hk r hr)
 have hin : InE (gX C A l n s) (2 * l.length + 1 + 6) := (XH6 (A := A) (l := l) (n := n) (E := arG C s) (fun e he => by
  obtain⟨i,hi,rfl⟩:=List.mem_map.1 he
  have hi:=List.mem_range.1 hi
  have e:i=2*(i / 2)+i%2:=by omega
  have r4:∀ t,t<4->arN C (i / 2) t<2*l.length+1:=fun t ht=>by
   have:=QK6 hm (k:=i / 2) (by omega) ht
   omega
  unfold prS
  split<;>split<;>exact⟨r4 _ (by decide),r4 _ (by decide)⟩) (by omega) (fun j j1 j2 ht=>by
  obtain⟨i,i1,i2,i3⟩:=reach ht (Nat.zero_le _)
  have e1:=i3 _ (h.stay j1 j2)
  rw[e1]
  obtain⟨r,hr,rfl⟩:∃ r,r<2/\j=(l.getD i 0).natAbs+r:=by
   rcases i2 with q|q
   · exact⟨0,by decide,q⟩
   · exact⟨1,by decide,q⟩
  have:=h.rng i i1 r hr
  omega) 6).1
 have v0:Con (gX C A l n s) (2*l.length+1) 0:=Con.edge (List.mem_append_right _ (((Xx7 A l n (2*l.length+1) 6).2 0 (by decide)).1 (Or.inl rfl)))
 have phP:∀ j,phX C l (sgS l s) (2*l.length+1+j)=j:=fun j=>by
  unfold phX
  rw[hl,if_pos (by omega)];omega
 have ph0:phX C l (sgS l s) 0=0:=by
  unfold phX
  rw[if_neg (by omega),if_pos rfl]
 refine XY0 hin (Jz3 hw h5) (phX C l (sgS l s)) (psX A l (sgS l s)) (fun u hu=>?_) (fun v hv=>?_) (fun e he=>?_) (fun e he=>?_) (fun v hv=>?_) (fun u hu=>?_)
 · by_cases q:2*l.length+1<=u
   · rw[show u=2*l.length+1+(u-(2*l.length+1)) by omega,phP];omega
   · by_cases z:u=0
     · rw[z,ph0];omega
     · obtain⟨a1,y,hy,a2,a3⟩:=Kb6 h hm (a:=u) (by omega) (by omega)
       unfold phX
       rw[if_neg (by omega),if_neg z,a2]
       have:=hw _ a1
       exact Zz6 (fun p hp=>by omega) _ (fun _=>by omega) _ (by omega)
 · by_cases q:v<6
   · rw[Xx3 q];omega
   · rw[show v=6+(v-6) by omega]
     cases hs:sgS l s (v - 6) with
     |true=>
      rw[Kb3 hs]
      have:=h.rngO (v-6) (by omega) 0 (by decide)
      simp only[Nat.add_zero]at this
      omega
     |false=>rw[Kb2 hs];omega
 · rcases List.mem_append.1 he with q|q
   · obtain⟨i,hi,rfl⟩:=List.mem_map.1 q
     have hi:=List.mem_range.1 hi
     have hk:i / 2<l.length:=by omega
     have p00:=ph _ hk 0 (by decide) (i / 2) (by omega)
     have p01:=ph _ hk 1 (by decide) (i / 2) (by omega)
     have p10:=ph _ hk 0 (by decide) (i / 2+1) (by omega)
     have p11:=ph _ hk 1 (by decide) (i / 2+1) (by omega)
     simp only[Nat.add_zero]at p00 p10
     have tl:Tch l (l.getD (i / 2) 0).natAbs (i / 2):=Or.inl rfl
     have tr:Tch l ((l.getD (i / 2) 0).natAbs+1) (i / 2):=Or.inr rfl
     cases hs:sgS l s (i / 2) with
     |true=>
      have lo:=Kw6 (n:=n) (σ:=sgS l s) hk
      unfold lbE at lo
      rw[if_pos hs]at lo
      rw[XG6 _ _ hs tl]at p10
      rw[XG6 _ _ hs tr]at p11
      have c1:=p00.trans (lo.trans p01.symm)
      have c2:=p10.trans p11.symm
      obtain⟨t,ht,e1,e2⟩:=(ZZ4 h (s:=s) hk).1 hs
      have c:i=2*(i / 2)+t∨i=2*(i / 2)+(1-t):=by omega
      rcases c with c|c
      · rcases e1 with e|e<;>rw[<-c]at e<;>rw[e]
        · exact c1
        · exact c1.symm
      · rcases e2 with e|e<;>rw[<-c]at e<;>rw[e]
        · exact c2
        · exact c2.symm
     |false=>
      rw[Kv7 _ _ hs]at p10 p11
      have c1:=p00.trans p10.symm
      have c2:=p01.trans p11.symm
      obtain⟨t,ht,e1,e2⟩:=(ZZ4 h (s:=s) hk).2 hs
      have c:i=2*(i / 2)+t∨i=2*(i / 2)+(1-t):=by omega
      rcases c with c|c
      · rcases e1 with e|e<;>rw[<-c]at e<;>rw[e]
        · exact c1
        · exact c1.symm
      · rcases e2 with e|e<;>rw[<-c]at e<;>rw[e]
        · exact c2
        · exact c2.symm
   · obtain⟨j,hj,⟨rfl,c⟩|⟨rfl,j1,j2,ht⟩⟩:=(Xx7 A l n (2*l.length+1) 6).1 e q
     · show Con _ (phX C l (sgS l s) (2*l.length+1+j)) (phX C l (sgS l s) 0)
       rw[phP,ph0]
       by_cases z:j=0
       · rw[z];exact Con.refl _ _
       · exact JZ4 (by omega) (by omega)
     · show Con _ (phX C l (sgS l s) (2*l.length+1+j)) (phX C l (sgS l s) (A j 0))
       rw[phP]
       exact(JY1 h hm j1 j2 (Nat.zero_le _) ht).symm
 · rcases List.mem_append.1 he with q|q
   · obtain⟨k,hk,rfl⟩:=List.mem_map.1 q
     have hk:=List.mem_range.1 hk
     have hx:=hw k hk
     unfold lbE
     cases hs:sgS l s k with
     |true=>
      rw[if_pos rfl]
      have a:=ZB2 h h5 s (x:=(l.getD k 0).natAbs) (by omega) (by omega) ⟨k,hk,Or.inl rfl⟩ k (by omega)
      have b:=ZB2 h h5 s (x:=(l.getD k 0).natAbs+1) (by omega) (by omega) ⟨k,hk,Or.inr rfl⟩ k (by omega)
      exact a.trans ((Kw5 h s hk hs).1.trans b.symm)
     |false=>
      rw[if_neg (by decide)]
      show Con _ (psX A l (sgS l s) (6+k)) (psX A l (sgS l s) 0)
      rw[Kb2 hs,Xx3 (by decide)]
      exact v0.symm
   · rcases List.mem_append.1 q with q|q
     · obtain⟨p,hp,rfl⟩:=List.mem_map.1 q
       have hp:=List.mem_range'_1.1 hp
       show Con _ (psX A l (sgS l s) (lbF (fun p=>p) 6 l (sgS l s) l.length p)) (psX A l (sgS l s) p)
       by_cases ht:∃ k,k<l.length/\Tch l p k
       · have a:=ZB2 h h5 s (x:=p) (by omega) (by omega) ht l.length (Nat.le_refl _)
         have b:=ZB2 h h5 s (x:=p) (by omega) (by omega) ht 0 (Nat.zero_le _)
         rw[h.ring p (by omega) (by omega)]at a
         exact a.trans b.symm
       · rw[ZW8 _ _ (fun k hk t=>ht ⟨k,hk,t⟩) _ (Nat.le_refl _)]
         exact Con.refl _ _
     · obtain⟨p,hp,rfl⟩:=List.mem_map.1 q
       have hp:=List.mem_range'_1.1 hp
       show Con _ (psX A l (sgS l s) p) (psX A l (sgS l s) 0)
       rw[Xx3 (by omega),Xx3 (by decide)]
       exact(Con.edge (List.mem_append_right _ (((Xx7 A l n (2*l.length+1) 6).2 p (by omega)).1 (Or.inr (by omega))))).trans v0.symm
 · by_cases q:v<6
   · rw[Xx3 q,phP];exact Con.refl _ _
   · rw[show v=6+(v-6) by omega]
     have hk:v-6<l.length:=by omega
     generalize v-6=k at hk ⊢
     cases hs:sgS l s k with
     |true=>
      rw[Kb3 hs]
      have:=ph k hk 0 (by decide) (k+1) (by omega)
      simp only[Nat.add_zero]at this
      rw[XG6 _ _ hs (Or.inl rfl)]at this
      exact this
     |false=>
      rw[Kb2 hs,ph0]
      have:=Kw6 (n:=n) (σ:=sgS l s) hk
      unfold lbE at this
      rw[hs,if_neg (by decide)]at this
      exact this.symm
 · by_cases q:2*l.length+1<=u
   · have e:u=2*l.length+1+(u-(2*l.length+1)):=by omega
     rw[e,phP,Xx3 (by omega)]
     exact Con.refl _ _
   · by_cases z:u=0
     · rw[z,ph0,Xx3 (by decide)]
       exact v0
     · obtain⟨a1,y,hy,a2,a3⟩:=Kb6 h hm (a:=u) (by omega) (by omega)
       have e:phX C l (sgS l s) u=lbF (fun p=>p) 6 l (sgS l s) (enC C u true) ((l.getD (enC C u true) 0).natAbs+y):=by
        unfold phX
        rw[if_neg (by omega),if_neg z,a2]
       have hx:=hw _ a1
       have:=ZB2 h h5 s (x:=(l.getD (enC C u true) 0).natAbs+y) (by omega) (by omega) (tch _ a1 y hy) (enC C u true) (by omega)
       rw[a3]at this
       rw[e]
       exact this
end
end Go.Proofs.YtjcagkgpbcdghaaDoor
