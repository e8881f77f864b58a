/- Several texts of the proof, one behind the other. -/
import Derived.Test.YtookanmeflbdlaaGreatDoorSG8P
import Derived.Deep.AppendLies
import Derived.Test.YtookanmeflbdlaaGreatDoorTkhP
/- The walk of sign.characteristic. -/
namespace Go.Proofs.YtookanmeflbdlaaGreatDoor
open Go.RowKit Go.Maps
set_option maxHeartbeats 8000000
set_option maxRecDepth 100000
def sqE (T:Nat->Nat->Int) (c:Int) (i:Nat):Nat->Nat->Int:=fun a b=>if a=b/\a<i then IntKind.i64.wrap (T a b+c) else T a b
def sqR (T:Nat->Nat->Int):Nat->Int
 |0=>0
 |i+1=>IntKind.i64.wrap (sqR T i+T i i)
def sqS (A:Nat->Nat->Int) (n:Nat):Nat->(Nat->Nat->Int)×Int
 |0=>(fun _ _=>0,1)
 |k+1=>(sqP A (sqE (sqS A n k).1 (sqS A n k).2 n) n,IntKind.i64.wrap ((IntKind.i64.wrap (-(sqR (sqP A (sqE (sqS A n k).1 (sqS A n k).2 n) n) n))).tdiv ((k:Int)+1)))
def sqC (A:Nat->Nat->Int) (n k:Nat):Int:=(sqS A n k).2
theorem KV8 (T:Nat->Nat->Int) (c:Int) (i a b:Nat):sqE T c (i+1) a b=if a=i/\b=i then IntKind.i64.wrap (T i i+c) else sqE T c i a b:=by
 unfold sqE
 by_cases h:a=i/\b=i
 · obtain⟨rfl,rfl⟩:=h
   rw[if_pos ⟨rfl,by omega⟩,if_pos ⟨rfl,rfl⟩]
 · rw[if_neg h]
   by_cases h2:a=b/\a<i
   · rw[if_pos h2,if_pos ⟨h2.1,by omega⟩]
   · rw [if_neg h2, if_neg (fun q => h2 ⟨q.1, by
       have:=q.2
       have h3:a≠i:=fun e=>h ⟨e,by omega⟩
       omega⟩)]
theorem JZ7 (T:Nat->Nat->Int) (c:Int) (i:Nat):sqE T c i i i=T i i:=by
 unfold sqE
 rw[if_neg (fun q=>Nat.lt_irrefl _ q.2)]
theorem KV7 (T:Nat->Nat->Int) (c:Int) (a b:Nat):sqE T c 0 a b=T a b:=by
 unfold sqE
 rw[if_neg (fun q=>Nat.not_lt_zero _ q.2)]
theorem KB8 (x:Int):∀ u∈[Value.int .i64 x],u.oneCell'=true:=by
 intro u hu
 rw[List.mem_singleton]at hu
 subst hu
 rfl
theorem Zg6 (m:Nat) (f:Nat->Int):QX2 (QF8 m f)++[.int .i64 (f m)]=QX2 (QF8 (m+1) f):=by simp[QX2,QF8,List.range_succ]
theorem KH0 (v : Value) (n : Nat) (A : Nat → Nat → Int) (w : World) (hn : n ≤ 100) (h : SqR w w.heap.size v n A) :
    Calls Tryz.prog 35 #[v] w fun e w'=>∃ r,e=.returned r/\w'.ownsRow w.heap.size 3 1 r (n+1) (QX2 (QF8 (n+1) (sqC A n)))/\Below w.heap.size w w':=by
 have HSQ:=hidS (fun W=>QA5 n W hn)
 have HSA:=hidS (fun(W:World) (hW:Below w.heap.size w W)=>h.up hW)
 have HPR:=hidS (fun v1 v2 B W h1 h2=>Xg1 v1 v2 n A B W hn h1 h2)
 obtain⟨a0,c0,rfl,-⟩:=h
 obtain⟨i0,hk0',hz0,hz1,hz2⟩:=info_parts Qg7
 have HONE:=hidS (World.ownsRow_nil w w.heap.size 3 1)
 obtain⟨w1,hw1⟩:∃ w1,w.alloc (.cells #[.int .i64 1] 3)=w1:=⟨_,rfl⟩
 have HW1:=hidS hw1
 have HB1:=hidS (show Below w.heap.size w w1 by rw[<-hw1];exact(Below.refl _ _).alloc (Nat.le_refl _) _)
 have hs1:w.heap.size+1<=w1.heap.size:=by rw[<-hw1];simp
 have HO1 : Hid (w1.ownsRow w.heap.size 3 1 (.slice (some ⟨w.heap.size, 0, none⟩) 1 1) 1 (QX2 (QF8 1 (sqC A n)))) := (by
  rw[<-hw1]
  exact⟨rfl,Or.inr ⟨w.heap.size,1,#[.int .i64 1],rfl,Nat.le_refl _,heap_alloc_new _ _,Nat.le_refl _,by unfold maxLen;decide,rfl,rfl⟩⟩:w1.ownsRow w.heap.size 3 1 (.slice (some ⟨w.heap.size,0,none⟩) 1 1) 1 (QX2 (QF8 1 (sqC A n))))
 clear hw1 HONE
 go_enter Tryz.func35,Tryz.ntmps35
 go_wp2_with (go_at_call 58;rw[HW1.out];refine(HSQ.out _).mono ?_;rintro e9 w2 ⟨gt,gs,rfl,hT,hb2⟩;refine Hid.out ?_)
 refine Lib.hid ?_
 have HT2:=hidS (hT.low (B':=w.heap.size) (by omega))
 have HG2:Hid (∀ i,i<n->gs i≠w.heap.size):=fun i hi e=>by have:=((hT.rows i hi).lt (gs i) rfl).1;omega
 have HO2:=hidS (own_any HO1.out (grown_below hb2 none))
 have HB2:=hidS (HB1.out.trans (hb2.mono HB1.out.size))
 clear hT hb2
 have HG0:Hid (w.heap.size<w2.heap.size):=(by have:=HB2.out.size;have:=(HO2.out.lt w.heap.size rfl).2;omega:w.heap.size<w2.heap.size)
 go_wp2
 go_loopw [5,3,4,6,7,8,21,44] (fun v5 v3 v4 _ _ _ _ _ wr=>∃ (k d gt g3 c3:Nat) (gs:Nat->Nat),k<=n+1/\d+1<=k/\k<=d+1/\v5=.int .i64 (k:Nat)/\v3=.slice (some ⟨g3,0,none⟩) k c3/\v4=.slice (some ⟨gt,0,none⟩) n n/\Hid (TabAt w.heap.size gt n gs n (sqS A n d).1 wr)/\Hid (wr.ownsRow w.heap.size 3 1 (.slice (some ⟨g3,0,none⟩) k c3) k (QX2 (QF8 k (sqC A n))))/\Hid (∀ i,i<n->gs i≠g3)/\Hid (Below w.heap.size w wr)) (fun v5 _ _ _ _ _ _ _ _=>n+1-(intOf v5).toNat)
 case atStart=>exact⟨1,0,gt,w.heap.size,1,gs,by omega,by omega,by omega,rfl,rfl,rfl,HT2.out,HO2.out,HG2.out,HB2.out⟩
 case round=>
  clear HT2 HO2 HG2 HB2 HG0 HW1 HB1 HO1 hs1
  rename World=>W1
  obtain⟨k,d,gt,g3,c3,gs,hk,hd1,hd2,rfl,rfl,rfl,hT,hO,hG,hb⟩:=hrel
  by_cases hkn:k<=n
  · have hsW:=hb.out.size
    have hki:(k:Int)<=(n:Int):=by omega
    obtain⟨T,hTT⟩:∃ T,(sqS A n d).1=T:=⟨_,rfl⟩
    obtain⟨c,hc⟩:∃ c,sqC A n d=c:=⟨_,rfl⟩
    have HTT:=hidS hTT
    have HC:=hidS hc
    rw[hTT]at hT
    have hg3:=(hO.out.lt g3 rfl).2
    have hg3b:=(hO.out.lt g3 rfl).1
    have HT1:=hidS (hT.out.congr (T':=sqE T c 0) (fun x y _ _=>KV7 T c x y))
    have HO1:=hidS hO.out
    have HB1:=hidS hb.out
    have HG:=hidS hG.out
    clear hT hO hG hb hTT hc
    go_wp2
    go_loopw [21,6] (fun v21 _ wr=>∃ i:Nat,i<=n/\v21=.int .i64 (i:Nat)/\Hid (TabAt w.heap.size gt n gs n (sqE T c i) wr)/\Hid (wr.ownsRow w.heap.size 3 1 (.slice (some ⟨g3,0,none⟩) k c3) k (QX2 (QF8 k (sqC A n))))/\Hid (Below w.heap.size w wr)) (fun v21 _ _=>n-(intOf v21).toNat)
    case atStart=>exact⟨0,Nat.zero_le _,rfl,HT1.out,HO1.out,HB1.out⟩
    case round=>
     clear HT1 HO1 HB1 hsW hg3 hg3b
     rename World=>W2
     obtain⟨i,hin,rfl,hT2,hO2,hb2⟩:=hrel
     by_cases hil:i<n
     · have hs2:=hb2.out.size
       have t1:W2.cell? ⟨gt,i,none⟩=some (.slice (some ⟨gs i,0,none⟩) n n):=hT2.out.cellO i hil hil
       have t2:W2.cell? ⟨gs i,i,none⟩=some (.int .i64 (sqE T c i i i)):=hT2.out.cellR i i hil hil
       have t3:W2.frozen? ⟨gs i,i,none⟩=false:=(hT2.out.rows i hil).frozenAt i
       have t4:gs i<W2.heap.size:=((hT2.out.rows i hil).lt (gs i) rfl).2
       have t5:gt<W2.heap.size:=(hT2.out.outer.lt gt rfl).2
       have t6:=((hT2.out.rows i hil).lt (gs i) rfl).1
       have t7:=(hO2.out.lt g3 rfl).2
       have t8:W2.cell? ⟨g3,d,none⟩=some (.int .i64 c):=by
        rw[hO2.out.cellAt d (by omega),QZ1 _ d (by rw[QV1];omega),QC8 _ _ _ (by omega),HC.out]
       have ed:IntKind.i64.wrap ((k:Int)-1)=(d:Int):=(IntWalk.i64_in _ (by omega)).trans (by omega)
       have hdk:(d:Int)<(k:Int):=by omega
       rw[JZ7]at t2
       obtain⟨p,hp⟩:∃ p,T i i=p:=⟨_,rfl⟩
       rw[hp]at t2
       obtain⟨m2,hm2⟩:∃ m2,IntKind.i64.wrap (p+c)=m2:=⟨_,rfl⟩
       have hset:=hT2.out.set (T':=sqE T c (i+1)) i i m2 hil (fun a b _ _=>by rw[KV8,hp,hm2])
       have HTN:=hidS hset.1
       have HON:=hidS (hO2.out.kept hset.2 (Or.inr (fun q=>HG.out i hil (Option.some.inj q).symm)))
       have HBN:=hidS (hb2.out.grown hset.2 hs2 (fun z hz=>by have:=Option.some.inj hz;omega))
       clear hset hp hT2 hO2 hb2
       go_wp2
       go_big_region
       go_wp2
       go_roundw
       all_goals first
        |(simp only[intOf];omega)
        |exact⟨i+1,by omega,by go_num,HTN.out.any (grown_below (Below.refl _ _).drew none),own_any HON.out (grown_below (Below.refl _ _).drew none),HBN.out.drew⟩
     · obtain rfl:i=n:=by omega
       have HSW:=hidS (JZ4 hT2.out)
       have HB2:=hidS hb2.out
       have HO2:=hidS hO2.out
       have hg3:=(hO2.out.lt g3 rfl).2
       clear hT2 hO2 hb2
       go_wp2_with (go_at_call 60;refine(HPR.out _ _ _ _ (HSA.out _ HB2.out) HSW.out).mono ?_;rintro e9 w5 ⟨gt5,gs5,rfl,hT5,hb5⟩;refine Hid.out ?_)
       refine Lib.hid ?_
       have hs2:=HB2.out.size
       have HG5:Hid (∀ x,x<i->W2.heap.size<=gs5 x):=fun x hx=>((hT5.rows x hx).lt (gs5 x) rfl).1
       obtain⟨U,hU⟩:∃ U,sqP A (sqE T c i) i=U:=⟨_,rfl⟩
       have HU:=hidS hU
       rw[hU]at hT5
       have HT5:=hidS (hT5.low (B':=w.heap.size) hs2)
       have HO5:=hidS (own_any HO2.out (grown_below hb5 none))
       have HB5:=hidS (HB2.out.trans (hb5.mono hs2))
       clear hT5 hb5 hU HSW HO2 HB2 hs2
       go_wp2
       go_loopw [44,8,7] (fun v44 _ v7 wr=>∃ j:Nat,j<=i/\v44=.int .i64 (j:Nat)/\v7=.int .i64 (sqR U j)/\Hid (TabAt w.heap.size gt5 i gs5 i U wr)/\Hid (wr.ownsRow w.heap.size 3 1 (.slice (some ⟨g3,0,none⟩) k c3) k (QX2 (QF8 k (sqC A i))))/\Hid (Below w.heap.size w wr)) (fun v44 _ _ _=>i-(intOf v44).toNat)
       case atStart=>exact⟨0,Nat.zero_le _,rfl,rfl,HT5.out,HO5.out,HB5.out⟩
       case round=>
        clear HT5 HO5 HB5
        rename World=>W3
        obtain⟨j,hjn,rfl,rfl,hT3,hO3,hb3⟩:=hrel
        by_cases hjl:j<i
        · have t1:W3.cell? ⟨gt5,j,none⟩=some (.slice (some ⟨gs5 j,0,none⟩) i i):=hT3.out.cellO j hjl hjl
          have t2:W3.cell? ⟨gs5 j,j,none⟩=some (.int .i64 (U j j)):=hT3.out.cellR j j hjl hjl
          have t4:gs5 j<W3.heap.size:=((hT3.out.rows j hjl).lt (gs5 j) rfl).2
          have t5:gt5<W3.heap.size:=(hT3.out.outer.lt gt5 rfl).2
          obtain⟨p,hp⟩:∃ p,U j j=p:=⟨_,rfl⟩
          obtain⟨r,hr⟩:∃ r,sqR U j=r:=⟨_,rfl⟩
          rw[hp]at t2
          rw[hr]
          obtain⟨m2,hm2⟩:∃ m2,IntKind.i64.wrap (r+p)=m2:=⟨_,rfl⟩
          have HM:Hid (sqR U (j+1)=m2):=(by rw[<-hm2,<-hr,<-hp];rfl:sqR U (j+1)=m2)
          have HTN:=hidS hT3.out
          have HON:=hidS hO3.out
          have HBN:=hidS hb3.out
          clear hp hr hT3 hO3 hb3
          go_wp2
          go_roundw
          all_goals first
           |(simp only[intOf];omega)
           |exact⟨j+1,by omega,by go_num,by rw[HM.out],HTN.out,HON.out,HBN.out⟩
        · obtain rfl:j=i:=by omega
          obtain⟨r,hr⟩:∃ r,sqR U j=r:=⟨_,rfl⟩
          have HR:=hidS hr
          rw[hr]
          obtain⟨m1,hm1⟩:∃ m1,IntKind.i64.wrap (-r)=m1:=⟨_,rfl⟩
          obtain⟨m2,hm2⟩:∃ m2,IntKind.i64.wrap (m1.tdiv (k:Int))=m2:=⟨_,rfl⟩
          have hk0:((k:Int)==0)=false:=beq_eq_false_iff_ne.2 (by omega)
          have hst:sqS A j (d+1)=(U,m2):=by
           have e:sqS A j (d+1)=(sqP A (sqE (sqS A j d).1 (sqS A j d).2 j) j,IntKind.i64.wrap ((IntKind.i64.wrap (-(sqR (sqP A (sqE (sqS A j d).1 (sqS A j d).2 j) j) j))).tdiv ((d:Int)+1))):=rfl
           have e2:(sqS A j d).2=c:=HC.out
           rw[e,HTT.out,e2,HU.out,hr,hm1,show(d:Int)+1=(k:Int) by omega,hm2]
          have HST:=hidS hst
          have hck:sqC A j k=m2:=by
           have e:k=d+1:=by omega
           rw[e]
           show(sqS A j (d+1)).2=m2
           rw[hst]
          have HCK:=hidS hck
          have hs3:=hb3.out.size
          have HG3:=hidS (fun x (hx:x<j)=>((hT3.out.rows x hx).lt (gs5 x) rfl).2)
          have HTN:=hidS hT3.out
          have HON:=hidS hO3.out
          have HBN:=hidS hb3.out
          have l3:=(hO3.out.lt g3 rfl).2
          clear hr hT3 hO3 hb3 hst hck
          go_wp2_with (first|(at_builtin;refine wpList_append_lies _ rfl _ _ 67 rfl w.heap.size 3 i0 (.int .i64 0) 1 8 Tryz.underlying67 hk0' hz0 hz1 hz2 rfl (by decide) _ k (QX2 (QF8 k (sqC A j))) rfl (HON.out.alloc _) ⟨W3.heap.size,0,none⟩ 1 1 [.int .i64 m2] rfl rfl (Qw5 _ _ _) (KB8 _) (by decide) (by unfold maxLen;omega) (by omega) (by simp;omega) _ rfl ?_;intro g8 c8 w8 hown8 hg8 hl8 hlt8;refine Hid.out ?_))
          refine Lib.hid ?_
          rw[<-HCK.out,Zg6]at hown8
          have hb8:=(HBN.out.alloc hs3 (.cells #[.int .i64 m2] 3)).grown hg8 (by simp;omega) (fun q hq=>(HON.out.lt q hq).1)
          have HT8 : Hid (TabAt w.heap.size gt5 j gs5 j (sqS A j (d + 1)).1 w8) := (by
           rw[HST.out]
           have ta:=HTN.out.any (grown_below ((Below.refl W3.heap.size W3).alloc (Nat.le_refl _) (.cells #[.int .i64 m2] 3)) none)
           refine⟨ta.outer.kept hg8 (own_ne ta.outer (HON.out.alloc _) (by decide)),fun x hx=>(ta.rows x hx).kept hg8 (Or.inr (fun q=>?_)),ta.inj⟩
           have:=HG5.out x hx
           have:gs5 x=g3:=Option.some.inj q
           omega:TabAt w.heap.size gt5 j gs5 j (sqS A j (d+1)).1 w8)
          have HG8:Hid (∀ x,x<j->gs5 x≠g8):=fun x hx e=>by
           have q1:=HG5.out x hx
           have q2:=HG3.out x hx
           rcases hl8 with q|q
           · have:g3=g8:=Option.some.inj q
             omega
           · simp at q
             omega
          have HO8:=hidS hown8
          have HB8:=hidS hb8
          clear hown8 hg8 hl8 hb8
          obtain⟨k1,hk1⟩:∃ k1,k+1=k1:=⟨_,rfl⟩
          have hk2:k+1<=k1/\k1<=k+1:=by omega
          rw[hk1]at HO8 ⊢
          have ek:IntKind.i64.wrap ((k:Int)+1)=(k1:Int):=(IntWalk.i64_in _ (by omega)).trans (by omega)
          clear hk1
          go_wp2
          go_roundw
          all_goals first
           |(simp only[intOf];omega)
           |exact⟨k1,d+1,gt5,g8,c8,gs5,by omega,by omega,by omega,by first|rfl|simp,by first|rfl|simp,rfl,HT8.out,HO8.out,HG8.out,HB8.out⟩
  · have hki:¬ (k:Int)<=(n:Int):=by omega
    have HO8:=hidS hO.out
    have HB8:=hidS hb.out
    obtain rfl:k=n+1:=by omega
    clear hT hO hG hb
    obtain⟨k1,hk1⟩:∃ k1,n+1=k1:=⟨_,rfl⟩
    have HK1:=hidS hk1
    rw[hk1]at HO8 hki ⊢
    clear hk1
    go_wp2
    go_ret
    refine⟨_,rfl,?_,HB8.out⟩
    rw[HK1.out]
    exact HO8.out
end Go.Proofs.YtookanmeflbdlaaGreatDoor
/- The walks of sign.squares and sign.Signature. -/
namespace Go.Proofs.YtookanmeflbdlaaGreatDoor
open Go.RowKit Go.Maps
set_option maxHeartbeats 8000000
set_option maxRecDepth 100000
def sgQ (f:Nat->Int):Nat->Nat×Nat×Int
 |0=>(0,0,1)
 |i+1=>if f i=0 then sgQ f i else((sgQ f i).1+(if(decide (f i<0) != decide ((sgQ f i).2.2<0))=true then 1 else 0),i,f i)
theorem KC3 (f:Nat->Int):∀ i,(sgQ f i).1<=i/\(sgQ f i).2.1<=i
 |0=>⟨Nat.le_refl _,Nat.le_refl _⟩
 |i+1=>by
  have h:=KC3 f i
  unfold sgQ
  split
  · omega
  · refine⟨?_,by simp only;omega⟩
    simp only
    split<;>omega
def sgV (f:Nat->Int) (m:Nat):Int:=((sgQ f m).1:Int)-(((sgQ f m).2.1:Int)-((sgQ f m).1:Int))
theorem Xf5 (a : Option Addr) (cap m : Nat) (f : Nat → Int) (w : World) (hm : m ≤ 1000) (h : RdAt w w.heap.size 1 (.slice a m cap) m (QX2 (QF8 m f))) :
    Calls Tryz.prog 34 #[.slice a m cap] w fun e w'=>e=.returned (.int .i64 (sgV f m))/\Below w.heap.size w w':=by
 have HR:=hidB h
 have HB:Hid (Below w.heap.size w w):=Below.refl _ _
 clear h
 go_enter Tryz.func34,Tryz.ntmps34
 go_wp2
 go_loopw [10,3,4,5,6,7] (fun v10 v3 v4 v5 _ _ wr=>∃ i:Nat,i<=m/\v10=.int .i64 (i:Nat)/\v3=.int .i64 ((sgQ f i).1:Nat)/\v4=.int .i64 ((sgQ f i).2.1:Nat)/\v5=.int .i64 (sgQ f i).2.2/\Hid (Below w.heap.size w wr)) (fun v10 _ _ _ _ _ _=>m-(intOf v10).toNat)
 case atStart=>exact⟨0,Nat.zero_le _,rfl,rfl,rfl,rfl,HB.out⟩
 case round=>
  clear HB
  rename World=>W1
  obtain⟨i,hin,rfl,rfl,rfl,rfl,hb⟩:=hrel
  have hle:=KC3 f i
  by_cases hil:i<m
  · have HN:Hid (sgQ f (i+1)=if f i=0 then sgQ f i else((sgQ f i).1+(if(decide (f i<0) != decide ((sgQ f i).2.2<0))=true then 1 else 0),i,f i)):=(rfl:sgQ f (i+1)=if f i=0 then sgQ f i else((sgQ f i).1+(if(decide (f i<0) != decide ((sgQ f i).2.2<0))=true then 1 else 0),i,f i))
    have HQ : Hid (∃ b off, a = some ⟨b, off, none⟩ ∧ b < w.heap.size ∧ w.cell? ⟨b, off + i, none⟩ = some (.int .i64 (f i))) := (by
     obtain⟨a',c',e,g⟩:=HR.out
     injection e with e1 e2 e3
     obtain⟨b,off,eb,hlt,hc⟩:=g (by omega)
     refine⟨b,off,e1.trans eb,hlt,?_⟩
     rw[hc i (by omega),QZ1 _ i (by rw[QV1];exact hil),QC8 _ _ _ hil]:∃ b off,a=some ⟨b,off,none⟩/\b<w.heap.size/\w.cell? ⟨b,off+i,none⟩=some (.int .i64 (f i)))
    obtain⟨b,off,ea,hbw,hc⟩:=HQ.out
    have e0:=bcell hb.out hbw hc
    have hsW:=hb.out.size
    have hbW:b<W1.heap.size:=by omega
    subst ea
    clear hc HQ
    obtain⟨q1,hq1⟩:∃ q,(sgQ f i).1=q:=⟨_,rfl⟩
    obtain⟨q2,hq2⟩:∃ q,(sgQ f i).2.1=q:=⟨_,rfl⟩
    obtain⟨q3,hq3⟩:∃ q,(sgQ f i).2.2=q:=⟨_,rfl⟩
    have HE:=hidB (show sgQ f i=(q1,q2,q3) by rw[<-hq1,<-hq2,<-hq3])
    rw[hq1,hq2,hq3]
    rw[hq1,hq2]at hle
    rw[HE.out]at HN
    obtain⟨x,hx⟩:∃ x,f i=x:=⟨_,rfl⟩
    rw[hx]at e0 HN
    have HBN:=hidS hb.out
    clear hq1 hq2 hq3 hx hb HE
    have en:IntKind.i64.wrap ((q1:Int)+1)=((q1+1:Nat):Int):=(IntWalk.i64_in _ (by omega)).trans (by omega)
    by_cases h0:x=0
    · subst h0
      rw[if_pos rfl]at HN
      go_wp2
      go_roundw
      all_goals first
       |(simp only[intOf];omega)
       |exact⟨i+1,by omega,by go_num,by rw[HN.out],by rw[HN.out],by rw[HN.out],HBN.out⟩
    · have hx0:(x==0)=false:=beq_eq_false_iff_ne.2 h0
      rw[if_neg h0]at HN
      obtain⟨q9,hq9⟩:∃ q9,q1+1=q9:=⟨_,rfl⟩
      rw[hq9]at en
      have HQ9:=hidS hq9
      clear hq9
      by_cases s1:x<0<;>by_cases s2:q3<0
      · have e1:decide (x<0)=true:=decide_eq_true s1
        have e2:decide (q3<0)=true:=decide_eq_true s2
        rw[e1,e2]at HN
        have HZ:Hid (sgQ f (i+1)=(q1,i,x)):=(HN.out:sgQ f (i+1)=(q1,i,x))
        clear s1 s2
        go_wp2
        go_roundw
        all_goals first
         |(simp only[intOf];omega)
         |exact⟨i+1,by omega,by go_num,by rw[HZ.out],by rw[HZ.out],by rw[HZ.out],HBN.out⟩
      · have e1:decide (x<0)=true:=decide_eq_true s1
        have e2:decide (q3<0)=false:=decide_eq_false s2
        rw[e1,e2]at HN
        have HZ:=hidB (show sgQ f (i+1)=(q9,i,x) by rw[<-HQ9.out];exact HN.out)
        clear s1 s2
        go_wp2
        go_roundw
        all_goals first
         |(simp only[intOf];omega)
         |exact⟨i+1,by omega,by go_num,by rw[HZ.out],by rw[HZ.out],by rw[HZ.out],HBN.out⟩
      · have e1:decide (x<0)=false:=decide_eq_false s1
        have e2:decide (q3<0)=true:=decide_eq_true s2
        rw[e1,e2]at HN
        have HZ:=hidB (show sgQ f (i+1)=(q9,i,x) by rw[<-HQ9.out];exact HN.out)
        clear s1 s2
        go_wp2
        go_roundw
        all_goals first
         |(simp only[intOf];omega)
         |exact⟨i+1,by omega,by go_num,by rw[HZ.out],by rw[HZ.out],by rw[HZ.out],HBN.out⟩
      · have e1:decide (x<0)=false:=decide_eq_false s1
        have e2:decide (q3<0)=false:=decide_eq_false s2
        rw[e1,e2]at HN
        have HZ:Hid (sgQ f (i+1)=(q1,i,x)):=(HN.out:sgQ f (i+1)=(q1,i,x))
        clear s1 s2
        go_wp2
        go_roundw
        all_goals first
         |(simp only[intOf];omega)
         |exact⟨i+1,by omega,by go_num,by rw[HZ.out],by rw[HZ.out],by rw[HZ.out],HBN.out⟩
  · obtain rfl:i=m:=by omega
    have HBN:=hidS hb.out
    have HV:Hid (sgV f i=((sgQ f i).1:Int)-(((sgQ f i).2.1:Int)-((sgQ f i).1:Int))):=(rfl:sgV f i=((sgQ f i).1:Int)-(((sgQ f i).2.1:Int)-((sgQ f i).1:Int)))
    generalize (sgQ f i).2.2=q3
    generalize (sgQ f i).1=q1 at hle HV
    generalize (sgQ f i).2.1=q2 at hle HV
    have e1:IntKind.i64.wrap ((q2:Int)-(q1:Int))=(q2:Int)-(q1:Int):=IntWalk.i64_in _ (by omega)
    have e2:IntKind.i64.wrap ((q1:Int)-((q2:Int)-(q1:Int)))=(q1:Int)-((q2:Int)-(q1:Int)):=IntWalk.i64_in _ (by omega)
    clear hb
    go_wp2
    go_ret
    exact⟨by rw[HV.out];rfl,HBN.out⟩
def JW8 (C:List Cr) (s:Nat->Nat) (n:Nat):Int:=IntKind.i64.wrap (sgV (sqC (fun i j=>goT C s 0 C.length (i+1) (j+1)) n) (n+1)-goF C s 0 C.length)
theorem XA8 (v : Value) (C : List Cr) (loops : Int) (s : Nat → Nat) (n : Nat) (w : World) (hm : QQ6 C loops = true) (hp : QX6 C = true) (ho : ZY2 C loops = true) (hs : Shd C s) (hc : cnS s 0 (QQ3 C).length = n + 1) (hn : n ≤ 100) (h : Crs w w.heap.size v C) :
    Calls Tryz.prog 14 #[.agg #[v,.int .i64 loops]] w fun e w'=>e=.returned (.tuple #[.int .i64 (JW8 C s n),.int .i64 0])/\Below w.heap.size w w':=by
 obtain⟨a0,cap0,rfl,hn0,hx⟩:=h
 have HC:Hid (Crs w w.heap.size (.slice a0 C.length cap0) C):=⟨a0,cap0,rfl,hn0,hx⟩
 have hK:=fun W (hW:Crs W W.heap.size (.slice a0 C.length cap0) C)=>KZ2 (.slice a0 C.length cap0) C loops s W hm hp ho hs hW
 have hG:=fun a cap gF cF gT cT gM gS W (hW:Ch W a cap C gF gT gM gS (shL s (QQ3 C).length))=>Xh2 a cap C loops gF cF gT cT gM gS s 0 W hm hp ho hs (by omega) hW
 unfold chV at hK hG
 rw[hc]at hG
 obtain⟨F,hF⟩:∃ F,(QQ3 C).length=F:=⟨_,rfl⟩
 rw[hF]at hK hG
 have HSG:Hid (JW8 C s n=IntKind.i64.wrap (sgV (sqC (fun i j=>goT C s 0 C.length (i+1) (j+1)) n) (n+1)-goF C s 0 C.length)):=(rfl:JW8 C s n=IntKind.i64.wrap (sgV (sqC (fun i j=>goT C s 0 C.length (i+1) (j+1)) n) (n+1)-goF C s 0 C.length))
 have hWF:=fun B gt gs W h=>Qd9 B gt n gs (goT C s 0 C.length) W hn h
 have hCH:=fun v W h=>KH0 v n (fun i j=>goT C s 0 C.length (i+1) (j+1)) W hn h
 have hSQ:=fun a c W h=>Xf5 a c (n+1) (sqC (fun i j=>goT C s 0 C.length (i+1) (j+1)) n) W (by omega) h
 obtain⟨fx,hfx⟩:∃ fx,goF C s 0 C.length=fx:=⟨_,rfl⟩
 obtain⟨sq,hsq⟩:∃ sq,sgV (sqC (fun i j=>goT C s 0 C.length (i+1) (j+1)) n) (n+1)=sq:=⟨_,rfl⟩
 rw[hfx]at hG HSG
 rw[hsq]at hSQ HSG
 obtain⟨m,hmn⟩:∃ m,n+1=m:=⟨_,rfl⟩
 rw[hmn]at hG hWF hCH hSQ
 obtain⟨z,hz⟩:∃ z,IntKind.i64.wrap (sq - fx)=z:=⟨_,rfl⟩
 rw[hz]at HSG
 have HK:=hidS hK
 have HG:=hidS hG
 have HWF:=hidS hWF
 have HCH:=hidS hCH
 have HSQ:=hidS hSQ
 have HB1:=hidS ((Below.refl w.heap.size w).alloc (Nat.le_refl _) (.cells #[.slice a0 C.length cap0,.int .i64 loops] 24))
 rw[HSG.out]
 clear hK hG hx hF hmn hfx hsq hWF hCH hSQ hc hs hp ho hm hn0 hn
 go_enter Tryz.func14,Tryz.ntmps14
 go_upto_region 4 with (go_at_call 32; refine (HK.out _ (HC.out.up HB1.out)).mono ?_; rintro e9 w2 ⟨a, cap, gF, cF, gT, cT, gM, gS, rfl, hch, -, -, hb2⟩
                        have HB2:=hidS (HB1.out.trans (hb2.mono (by simp)))
                        have HCH2:=hidS hch
                        clear hb2 hch)
 obtain⟨X,hX⟩:∃ X,w2.alloc (.cells #[.slice a C.length cap,.int .i64 loops,.slice (some ⟨gF,0,none⟩) (2*C.length+1) cF,.slice (some ⟨gT,0,none⟩) (2*C.length+1) cT,.map (some gM),.slice (some ⟨gS,0,none⟩) F F] 75)=X:=⟨_,rfl⟩
 have hbX:Below w2.heap.size w2 X:=by rw[<-hX];exact(Below.refl _ _).alloc (Nat.le_refl _) _
 have kX:X.heap[w2.heap.size]?=some (.cells #[.slice a C.length cap,.int .i64 loops,.slice (some ⟨gF,0,none⟩) (2*C.length+1) cF,.slice (some ⟨gT,0,none⟩) (2*C.length+1) cT,.map (some gM),.slice (some ⟨gS,0,none⟩) F F] 75 (0,0)):=by rw[<-hX];exact alloc_at rfl
 have x0:=QQ0 (i:=0) kX rfl
 have x1:=QQ0 (i:=1) kX rfl
 have x2:=QQ0 (i:=2) kX rfl
 have x3:=QQ0 (i:=3) kX rfl
 have x4:=QQ0 (i:=4) kX rfl
 have x5:=QQ0 (i:=5) kX rfl
 have lX:w2.heap.size<X.heap.size:=(Array.getElem?_eq_some_iff.1 kX).1
 have HBX:=hidS (HB2.out.trans (hbX.mono HB2.out.size))
 have HCX:=hidS (HCH2.out.on hbX)
 have sX:=HBX.out.size
 rw[hX]
 clear hX hbX kX
 go_wp2_with (first
  |(go_at_call 33;refine(HG.out _ _ _ _ _ _ _ _ _ HCX.out).mono ?_;rintro e9 w3 ⟨gt,gs,rfl,ht3,hb3⟩;refine Hid.out ?_))
 refine Lib.hid ?_
 have HT3:=hidS ht3
 have HB3:=hidS (HBX.out.trans (hb3.mono sX))
 clear ht3 hb3 x0 x1 x2 x3 x4 x5
 go_wp2_with (go_at_call 36;refine(HWF.out _ _ _ _ HT3.out).mono ?_;rintro e9 w4 ⟨v4,rfl,hq4,hb4⟩;refine Hid.out ?_)
 refine Lib.hid ?_
 have HQ4:=hidS hq4
 have HB4:=hidS (HB3.out.trans (hb4.mono HB3.out.size))
 clear hq4 hb4
 go_wp2_with (go_at_call 35;refine(HCH.out _ _ HQ4.out).mono ?_;rintro e9 w5 ⟨v5,rfl,hq5,hb5⟩;obtain⟨a5,c5,e5⟩:=QK8 hq5;subst e5;refine Hid.out ?_)
 refine Lib.hid ?_
 have HQ5:=hidS (Zq6 hq5)
 have HB5:=hidS (HB4.out.trans (hb5.mono HB4.out.size))
 clear hq5 hb5
 go_wp2_with (go_at_call 34;refine(HSQ.out _ _ _ HQ5.out).mono ?_;rintro e9 w6 ⟨rfl,hb6⟩;refine Hid.out ?_)
 refine Lib.hid ?_
 have HB6:=hidS (HB5.out.trans (hb6.mono HB5.out.size))
 clear hb6
 go_wp2
 go_ret2
 exact⟨rfl,HB6.out⟩
end Go.Proofs.YtookanmeflbdlaaGreatDoor
