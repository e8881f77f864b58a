/- Several texts of the proof, one behind the other. -/
import Derived.Test.YtagaajlbkfkaiaaMV2P
import Derived.Test.YtagaajlbkfkaiaaMV3
import Derived.Test.YtagaajlbkfkaiaaMV9
import Derived.Test.YtagaajlbkfkaiaaMVt
import Derived.Test.YtagaajlbkfkaiaaMW1P
import Derived.Test.YtagaajlbkfkaiaaMW4
import Derived.Test.YtagaajlbkfkaiaaMW5
import Derived.Test.YtagaajlbkfkaiaaME11P
import Derived.Test.YtagaajlbkfkaiaaMBb
/- Moves: what laid and moved do and the document's DoMove answers, side by side. Made by genmpa.py out of MP1. -/
namespace Go.Proofs.Ytagaajlbkfkaiaa
open Go.RowKit
theorem QU0:QK5:=fun a cap C loops gF cF gT cT w hm hD=>QK1 a cap C loops gF cF gT cT w hm hD
theorem laid_all (a:Option Addr) (cap:Nat) (C:List Cr) (loops:Int) (w:World) (hm:mayD C loops=true) (hp:QX1 C=true) (h:Crs w w.heap.size (.slice a C.length cap) C):∀ W,Below w.heap.size w W->Calls Try.prog 29 #[.agg #[.slice a C.length cap,.int .i64 loops]] W fun e w'=>∃ gF cF gT cT,e=.returned (drV a cap C loops gF cF gT cT)/\Dr w' a cap C gF gT/\Below W.heap.size W w':=
 fun W hW=>(laid_yes QU0 a cap C loops W hm hp (h.up hW)).mono fun _ _ ⟨gF,cF,gT,cT,h1,h2,h3⟩=>⟨gF,cF,gT,cT,h1,h2.1,h3⟩
theorem do_no (a:Option Addr) (cap:Nat) (C:List Cr) (loops k x y ua va:Int) (ub vb ov:Bool) (why:Int) (w:World) (hm:mayD C loops=true) (hp:QX1 C=true) (h:Crs w w.heap.size (.slice a C.length cap) C)
    (hM:∀ W gF cF gT cT,Dr W a cap C gF gT->Calls Try.prog 30 #[drV a cap C loops gF cF gT cT,mvV k x y ua ub va vb ov] W fun e w'=>e=.panicked (QZ7 why)/\Below W.heap.size W w') (hw:why≠0:=by decide):
    Ways a cap C loops ⟨k,x,y,ua,ub,va,vb,ov⟩ [] 0 why w:=Or.inr ⟨laid_all a cap C loops w hm hp h,Or.inl ⟨rfl,rfl,hw,hM⟩⟩
theorem do_yes (a:Option Addr) (cap:Nat) (C:List Cr) (loops k x y ua va:Int) (ub vb ov:Bool) (D:List Cr) (lo:Int) (w:World) (hm:mayD C loops=true) (hp:QX1 C=true) (h:Crs w w.heap.size (.slice a C.length cap) C)
    (hM:∀ W gF cF gT cT,Dr W a cap C gF gT->Calls Try.prog 30 #[drV a cap C loops gF cF gT cT,mvV k x y ua ub va vb ov] W fun e w'=>∃ a2 c2,e=.returned (.agg #[.slice a2 D.length c2,.int .i64 lo])/\w'.ownsRow W.heap.size 71 5 (.slice a2 D.length c2) D.length (QQ4 D)/\Below W.heap.size W w'):
    Ways a cap C loops ⟨k,x,y,ua,ub,va,vb,ov⟩ D lo 0 w:=Or.inr ⟨laid_all a cap C loops w hm hp h,Or.inr ⟨rfl,hM⟩⟩
end Go.Proofs.Ytagaajlbkfkaiaa
/- Takings: what both do with a move that takes something out, told exactly. -/
namespace Go.Proofs.Ytagaajlbkfkaiaa
open Go.RowKit
def moG:List Nat->Mo
 |[x]=>⟨2,x,0,0,false,0,false,false⟩
 |[x,y]=>⟨4,x,y,0,false,0,false,false⟩
 |_=>Mo.none
def Wyq (C:List Cr) (lo:Int) (m:Mo) (D:List Cr) (lo2 ce:Int):Prop:=∀ (a:Option Addr) (cap:Nat) (w:World),Crs w w.heap.size (.slice a C.length cap) C->Ways a cap C lo m D lo2 ce w
theorem take_ways {C:List Cr} {loops:Int} {G:List Nat} (hm:mayD C loops=true) (hp:QX1 C=true) (hG:G∈tkA C.length):
    (okG C loops G=true->Wyq C loops (moG G) (takC C G) (takL C loops G) 0)/\(okG C loops G=false->∃ ce,(ce=8∨ce=2)/\Wyq C loops (moG G) [] 0 ce):=by
 rcases mem_tkA.1 hG with⟨x,hxl,rfl⟩|⟨x,y,hxy',hyl,rfl⟩
 · have hs:=curl_same hm x hxl
   cases hcu:cuB C x with
   |false=>
    rw[hcu]at hs
    refine⟨fun h=>?_,fun _=>⟨8,Or.inl rfl,fun a cap w h=>?_⟩⟩
    · have h3:(caB C x&&decide (takL C loops [x]<=16))=true:=h
      rw[hs]at h3
      cases h3
    · exact do_no a cap C loops 2 x 0 0 0 false false false 8 w hm hp h (fun W gF cF gT cT hd=>QZ8 kf2 a cap C loops gF cF gT cT 8 x 0 0 0 false false false W (fun W2 hW2=>uncurl_no2 a cap C loops gF cF gT cT 2 0 0 0 x false false false W2 hm (hd.on hW2) hxl hcu))
   |true=>
    rw[hcu]at hs
    have hok:okG C loops [x]=decide (takL C loops [x]<=16):=by
     show(caB C x&&decide (takL C loops [x]<=16))=_
     rw[hs,Bool.true_and]
    refine⟨fun h a cap w hC=>?_,fun h=>⟨2,Or.inr rfl,fun a cap w hC=>?_⟩⟩
    · have hL:takL C loops [x]<=16:=by rw[hok]at h;exact of_decide_eq_true h
      exact do_yes a cap C loops 2 x 0 0 0 false false false _ _ w hm hp hC (fun W gF cF gT cT hd=>QU4 kf2 a cap C loops gF cF gT cT x 0 0 0 false false false W _ _ (fun W2 hW2=>uncurl_yes a cap C loops gF cF gT cT 2 0 0 0 x false false false W2 hm (hd.on hW2) hxl hcu hL))
    · have hL:¬ takL C loops [x]<=16:=by rw[hok]at h;exact of_decide_eq_false h
      exact do_no a cap C loops 2 x 0 0 0 false false false 2 w hm hp hC (fun W gF cF gT cT hd=>QZ8 kf2 a cap C loops gF cF gT cT 2 x 0 0 0 false false false W (fun W2 hW2=>uncurl_no3 a cap C loops gF cF gT cT 2 0 0 0 x false false false W2 hm (hd.on hW2) hxl hcu (by omega)))
 · have hxl:x<C.length:=by omega
   have hxy:x≠y:=by omega
   have hj:jlR C x y=jlB C x y:=funext (jl_same C x y)
   cases hja:(QQ3 C).any (jlB C x y) with
   |false=>
    refine⟨fun h=>?_,fun _=>⟨8,Or.inl rfl,fun a cap w h=>?_⟩⟩
    · have h3:((QQ3 C).any (jlR C x y)&&decide (takL C loops [x,y]<=16))=true:=h
      rw[hj,hja]at h3
      cases h3
    · exact do_no a cap C loops 4 x y 0 0 false false false 8 w hm hp h (fun W gF cF gT cT hd=>QZ8 kf4 a cap C loops gF cF gT cT 8 x y 0 0 false false false W (fun W2 hW2=>pull_no2 a cap C loops gF cF gT cT 4 0 0 x y false false false W2 hm (hd.on hW2) hxl hyl hxy hja))
   |true=>
    have hok:okG C loops [x,y]=decide (takL C loops [x,y]<=16):=by
     show((QQ3 C).any (jlR C x y)&&decide (takL C loops [x,y]<=16))=_
     rw[hj,hja,Bool.true_and]
    refine⟨fun h a cap w hC=>?_,fun h=>⟨2,Or.inr rfl,fun a cap w hC=>?_⟩⟩
    · have hL:takL C loops [x,y]<=16:=by rw[hok]at h;exact of_decide_eq_true h
      exact do_yes a cap C loops 4 x y 0 0 false false false _ _ w hm hp hC (fun W gF cF gT cT hd=>QU4 kf4 a cap C loops gF cF gT cT x y 0 0 false false false W _ _ (fun W2 hW2=>pull_yes a cap C loops gF cF gT cT 4 0 0 x y false false false W2 hm (hd.on hW2) hxl hyl hxy hja hL))
    · have hL:¬ takL C loops [x,y]<=16:=by rw[hok]at h;exact of_decide_eq_false h
      exact do_no a cap C loops 4 x y 0 0 false false false 2 w hm hp hC (fun W gF cF gT cT hd=>QZ8 kf4 a cap C loops gF cF gT cT 2 x y 0 0 false false false W (fun W2 hW2=>pull_no3 a cap C loops gF cF gT cT 4 0 0 x y false false false W2 hm (hd.on hW2) hxl hyl hxy hja (by omega)))
theorem do_ways (a:Option Addr) (cap:Nat) (C:List Cr) (loops:Int) (m:Mo) (D:List Cr) (lo ce:Int) (w:World) (h:Ways a cap C loops m D lo ce w):Calls Try.prog 9 #[.agg #[.slice a C.length cap,.int .i64 loops],m.val] w fun e w'=>RsAt w D lo ce e w':=by
 obtain⟨k,x,y,ua,ub,va,vb,ov⟩:=m
 rcases h with⟨rfl,rfl,rfl,h⟩|⟨hL,⟨rfl,rfl,-,hM⟩|⟨rfl,hM⟩⟩
 · exact(mvDo_state a C.length cap loops k x y ua va ub vb ov w h).mono fun e w' ⟨h1,h2⟩=>h1▸RsAt.no h2
 · have h0:=mvDo_no a C.length cap loops k x y ua va ub vb ov w (2*C.length+1) (fun gF _ gT _ W=>Dr W a cap C gF gT) ce hL (fun W gF cF gT cT _ hd=>hM W gF cF gT cT hd)
   exact h0.mono fun e w' ⟨h1,h2⟩=>h1▸RsAt.no h2
 · have h0:=mvDo_yes a C.length cap loops k x y ua va ub vb ov w (2*C.length+1) (fun gF _ gT _ W=>Dr W a cap C gF gT)
     (fun a2 n2 c2 l2 W=>n2=D.length/\l2=lo/\W.ownsRow (w.heap.size+4) 71 5 (.slice a2 D.length c2) D.length (QQ4 D))
     (fun a2 n2 c2 l2 W U W' ⟨h1,h2,h3⟩ g1 g2=>⟨h1,h2,by
      have hq:∀ q,q<w.heap.size+4->(Value.slice a2 D.length c2).ownBlock=none∨(Value.slice a2 D.length c2).ownBlock≠some q:=fun q hq=>by
       cases hv:(Value.slice a2 D.length c2).ownBlock with
       |none=>exact Or.inl rfl
       |some k=>exact Or.inr (fun e=>by have h4:=(h3.lt k hv).1;have h5:=Option.some.inj e;omega)
      exact(h3.kept g1 (hq _ (by omega))).kept g2 (hq _ (by omega))⟩)
     hL
     (fun W gF cF gT cT _ hs hd=>(hM W gF cF gT cT hd).mono fun e w' ⟨a2,c2,h1,h2,h3⟩=>⟨a2,D.length,c2,lo,h1,⟨rfl,rfl,QX4 h2 hs⟩,h3⟩)
   refine h0.mono fun e w' hh=>?_
   obtain⟨a2,n2,c2,l2,h1,⟨rfl,rfl,h3⟩,h4⟩:=hh
   exact⟨a2,c2,h1,QX4 h3 (by omega),h4⟩
end Go.Proofs.Ytagaajlbkfkaiaa
/- Moves: uncurls, pushes, pulls and slides, side by side. Made by genmpa.py out of MP2. -/
namespace Go.Proofs.Ytagaajlbkfkaiaa
open Go.RowKit
theorem face_tells {C:List Cr} {loops:Int} (hm:mayD C loops=true) (u v:Nat) (hu1:1<=u) (hu2:u<=4*C.length) (hv1:1<=v) (hv2:v<=4*C.length):∃ b:Bool,(u≠v->b=ofB C u v)/\∀ (a:Option Addr) (cap gF cF gT cT:Nat) (W:World),Dr W a cap C gF gT->Calls Try.prog 110 #[drV a cap C loops gF cF gT cT,.agg #[.int .i64 (dA u:Nat),.bool (dB u)],.agg #[.int .i64 (dA v:Nat),.bool (dB v)]] W fun e w'=>e=.returned (.bool b)/\Below W.heap.size W w':=by
 obtain⟨g,p,h0,h1,h2,h3,h4,h5,h6⟩:=face_orbit hm u hu1 hu2
 obtain⟨b,hb⟩:∃ b:Bool,b=true↔∃ r,0<r/\r<p/\g r=v:=by
  rcases Classical.em (∃ r,0<r/\r<p/\g r=v) with h|h
  · exact⟨true,⟨fun _=>h,fun _=>rfl⟩⟩
  · exact⟨false,⟨fun e=>(by cases e),fun e=>absurd e h⟩⟩
 refine⟨b,fun hne=>?_,fun a cap gF cF gT cT W hd=>onOneFace_any a cap C loops gF cF gT cT u v g p b W hm hu1 hv1 hd h0 h1 h2 h3 h4 h5 hb⟩
 rw[Bool.eq_iff_iff,hb,one_face u v hu1 hu2 hv1 hv2]
 exact(h6 v hv1 hv2 (fun e=>hne e.symm)).symm
theorem push_same {C:List Cr} {loops:Int} (hm:mayD C loops=true) (un vn:Nat) (ub vb ov:Bool) (hu1:1<=un) (hu2:un<=2*C.length) (hv1:1<=vn) (hv2:vn<=2*C.length):pushX C (un:Int) ub (vn:Int) vb ov=pushR C un ub vn vb ov:=by
 obtain⟨-,a1,a2,-,-⟩:=QJ0 hm un hu1 hu2
 obtain⟨-,b1,b2,-,-⟩:=QJ0 hm vn hv1 hv2
 have e1:2*(C.length:Int)+1+1=2*(C.length:Int)+2:=by omega
 have e3:2*(C.length:Int)+3+1=2*(C.length:Int)+4:=by omega
 unfold pushR
 rw[e1,e3,List.append_assoc]
 have hr:relN (putF (putF (fun _=>none) (4*toC C un+4+toS C un) (2*(C.length:Int)+2)) (4*toC C vn+4+toS C vn) (2*(C.length:Int)+4)) C C.length=setL (setL C (toC C un) (toS C un) (2*(C.length:Int)+2)) (toC C vn) (toS C vn) (2*(C.length:Int)+4):=by
  rw[relN_put _ _ _ _ _ _ b1 b2,relN_put _ _ _ _ _ _ a1 a2,relN_none]
 rw[<-hr,<-push_p,<-push_q]
 rfl
theorem slide_tells {C:List Cr} {loops:Int} (hm:mayD C loops=true) {l:List Nat} (hl:l∈QQ3 C) (h3:l.length=3):slR C l=(triB C l&&(topB C l&&botB C l)):=by
 obtain⟨x,y,z,rfl,hx,hy,hz,e1,e2,e3⟩:=tri_ring hm hl h3
 rw[tri_same hm hx hy hz e1 e2 e3]
 have hq:∀ q,hcN C [x,y,z] q 3=cnt3 q (hgt C (dA x)) (hgt C (dA y)) (hgt C (dA z)):=fun q=>by
  show 0+(if hgt C (dA x)=q then 1 else 0)+(if hgt C (dA y)=q then 1 else 0)+(if hgt C (dA z)=q then 1 else 0)=_
  rw[Nat.zero_add]
  rfl
 unfold slR triB
 rw[hq,hq,hq]
 show _=((!decide (dC C x=dC C y)&&!decide (dC C y=dC C z))&&!decide (dC C z=dC C x)&&_)
 show(((((_&&_)&&_)&&!decide (dC C x=dC C y))&&!decide (dC C x=dC C z))&&!decide (dC C y=dC C z))=_
 have ec:decide (dC C z=dC C x)=decide (dC C x=dC C z):=by
  rw[Bool.eq_iff_iff]
  simp only[decide_eq_true_eq]
  exact eq_comm
 rw[ec]
 generalize decide (cnt3 0 _ _ _=1)=a
 generalize decide (cnt3 1 _ _ _=1)=b
 generalize decide (cnt3 2 _ _ _=1)=c
 generalize decide (dC C x=dC C y)=d
 generalize decide (dC C x=dC C z)=e
 generalize decide (dC C y=dC C z)=f
 cases a<;>cases b<;>cases c<;>cases d<;>cases e<;>cases f<;>rfl
theorem slide_same {C:List Cr} {loops:Int} (hm:mayD C loops=true) {l:List Nat} (hl:l∈QQ3 C) (h3:l.length=3) (ht:triB C l=true):relN (slFs C l 3) C C.length=slLs C l 3:=by
 obtain⟨x,y,z,rfl,hx,hy,hz,e1,e2,e3⟩:=tri_ring hm hl h3
 have ht':((!decide (dC C x=dC C y)&&!decide (dC C y=dC C z))&&!decide (dC C z=dC C x))=true:=ht
 simp only[Bool.and_eq_true,Bool.not_eq_true',decide_eq_false_iff_not]at ht'
 obtain⟨⟨n1,n2⟩,n3⟩:=ht'
 have dx:=dA_le hx.1 hx.2
 have dy:=dA_le hy.1 hy.2
 have dz:=dA_le hz.1 hz.2
 show relN (slF C (slF C (slF C (fun _=>none) (dA x)) (dA y)) (dA z)) C C.length=slL C (slL C (slL C C (dA x)) (dA y)) (dA z)
 rw[slide_spots hm _ _ dz.1 dz.2 (tri_ne hm hy e2 n2),slide_spots hm _ _ dy.1 dy.2 (tri_ne hm hx e1 n1),slide_spots hm _ _ dx.1 dx.2 (tri_ne hm hz e3 n3),relN_none]
end Go.Proofs.Ytagaajlbkfkaiaa
/- Moves: what the program makes of a move, told exactly, and how it is taken back. -/
namespace Go.Proofs.Ytagaajlbkfkaiaa
open Go.RowKit
def Sld (C:List Cr) (x:Int) (D:List Cr):Prop:=∃ (i:Nat) (l:List Nat),x=(i:Int)/\i<(QQ3 C).length/\(QQ3 C).getD i []=l/\l.length=3/\slR C l=true/\D=slLs C l 3
def Don (C:List Cr) (lo:Int) (m:Mo) (D:List Cr) (l2:Int):Prop:=
 mayD D l2=true/\QX1 D=true/\
 ((m.k=1/\D.length=C.length+1/\Wyq D l2 (moG [C.length]) C lo 0)∨(m.k=3/\D.length=C.length+2/\Wyq D l2 (moG [C.length,C.length+1]) C lo 0)∨(m.k=5/\D.length=C.length/\l2=lo/\Sld C m.x D)∨(m.k=2/\D.length+1=C.length)∨(m.k=4/\D.length+2=C.length))
theorem take_one_back {C D:List Cr} {lo l2:Int} (hm:mayD D l2=true) (hp:QX1 D=true) (hl:D.length=C.length+1) (hlo:lo<=16) (hc:caB D C.length=true) (h1:takC D [C.length]=C) (h2:takL D l2 [C.length]=lo):Wyq D l2 (moG [C.length]) C lo 0:=by
 have hok:okG D l2 [C.length]=true:=by
  show(caB D C.length&&decide (takL D l2 [C.length]<=16))=true
  rw[hc,h2,decide_eq_true hlo]
  rfl
 have h3:=(take_ways hm hp (mem_tkA.2 (Or.inl ⟨C.length,by omega,rfl⟩))).1 hok
 rw[h1,h2]at h3
 exact h3
theorem take_two_back {C D:List Cr} {lo l2:Int} (hm:mayD D l2=true) (hp:QX1 D=true) (hl:D.length=C.length+2) (hlo:lo<=16) (hc:(QQ3 D).any (jlR D C.length (C.length+1))=true) (h1:takC D [C.length,C.length+1]=C) (h2:takL D l2 [C.length,C.length+1]=lo):Wyq D l2 (moG [C.length,C.length+1]) C lo 0:=by
 have hok:okG D l2 [C.length,C.length+1]=true:=by
  show((QQ3 D).any (jlR D C.length (C.length+1))&&decide (takL D l2 [C.length,C.length+1]<=16))=true
  rw[hc,h2,decide_eq_true hlo]
  rfl
 have h3:=(take_ways hm hp (mem_tkA.2 (Or.inr ⟨C.length,C.length+1,by omega,by omega,rfl⟩))).1 hok
 rw[h1,h2]at h3
 exact h3
section
variable {C:List Cr} {lo:Int}
theorem way_1 (x y ua:Int) (ub:Bool) (va:Int) (vb ov:Bool) (hm:mayD C lo=true) (hp:QX1 C=true):∃ (D:List Cr) (l2 ce:Int),Wyq C lo ⟨1,x,y,ua,ub,va,vb,ov⟩ D l2 ce/\(ce≠0->D=[]/\l2=0)/\(ce=0->Don C lo ⟨1,x,y,ua,ub,va,vb,ov⟩ D l2):=by
 have hl16:=QK4 hm
 obtain⟨-,hlo0,hlo16,-⟩:=QZ2 (QK3 hm)
 by_cases hc:curlB C lo x=true
 · by_cases hy:0<=y/\y<4
   · obtain⟨yn,rfl⟩:∃ n:Nat,y=(n:Int):=⟨y.toNat,by omega⟩
     have hy4:yn<4:=by omega
     by_cases hn:C.length<16
     · by_cases hx0:x=0
       · subst hx0
         have hlp:0<lo:=by
          unfold curlB hasB at hc
          simp at hc
          exact hc
         obtain⟨q1,q2⟩:=loL_may (l2:=lo - 1) hm hp hy4 hn (by omega) (by omega)
         obtain⟨q3,q4⟩:=loL_back (l2:=lo - 1) hm hp hy4 hn (by omega) (by omega)
         refine⟨loL C yn,lo-1,0,fun a cap w h=>?_,fun e=>absurd rfl e,fun _=>⟨q1,q2,Or.inl ⟨rfl,loL_len C yn,take_one_back q1 q2 (loL_len C yn) hlo16 (loL_ca hy4) q3 (by rw[q4];omega)⟩⟩⟩
         refine do_yes a cap C lo 1 0 yn ua va ub vb ov _ _ w hm hp h (fun W gF cF gT cT hd=>QU4 kf1 a cap C lo gF cF gT cT 0 yn ua va ub vb ov W _ _ (fun W2 hW2=>?_))
         have h2:=curl_yes0 a cap C lo gF cF gT cT 1 ua va yn ub vb ov W2 hm hlp (by omega) hn (hd.on hW2)
         rw[relN_none]at h2
         rw[loL_len]
         refine h2.mono fun e w' hh=>?_
         obtain⟨a2,c2,h3,h4,h5⟩:=hh
         refine⟨a2,c2,h3,?_,h5⟩
         simpa[loL,loX] using h4
       · have hxx:1<=x/\x<=2*(C.length:Int):=by
           unfold curlB hasB at hc
           simp at hc
           omega
         obtain⟨xn,rfl⟩:∃ n:Nat,x=(n:Int):=⟨x.toNat,by omega⟩
         have hx1:1<=xn:=by omega
         have hx2:xn<=2*C.length:=by omega
         obtain⟨q1,q2⟩:=cuL_may hm hp hx1 hx2 hy4 hn
         obtain⟨q3,q4⟩:=cuL_back hm hp hx1 hx2 hy4 hn
         refine⟨cuL C xn yn,lo,0,fun a cap w h=>?_,fun e=>absurd rfl e,fun _=>⟨q1,q2,Or.inl ⟨rfl,cuL_len C xn yn,take_one_back q1 q2 (cuL_len C xn yn) hlo16 (cuL_ca hy4) q3 q4⟩⟩⟩
         refine do_yes a cap C lo 1 xn yn ua va ub vb ov _ _ w hm hp h (fun W gF cF gT cT hd=>QU4 kf1 a cap C lo gF cF gT cT xn yn ua va ub vb ov W _ _ (fun W2 hW2=>?_))
         have h2:=curl_yes1 a cap C lo gF cF gT cT 1 ua va xn yn ub vb ov W2 hm (by omega) (by omega) (by omega) hn (hd.on hW2)
         rw[curl_spots hm xn _ (by omega) (by omega)]at h2
         rw[cuL_len]
         refine h2.mono fun e w' hh=>?_
         obtain⟨a2,c2,h3,h4,h5⟩:=hh
         refine⟨a2,c2,h3,?_,h5⟩
         simpa[cuL,cuX] using h4
     · exact⟨[],0,2,fun a cap w h=>do_no a cap C lo 1 x yn ua va ub vb ov 2 w hm hp h (fun W gF cF gT cT hd=>QZ8 kf1 a cap C lo gF cF gT cT 2 x yn ua va ub vb ov W (fun W2 hW2=>curl_no3 a cap C lo gF cF gT cT 1 x yn ua va ub vb ov W2 hl16 hc (by omega) (by omega) (by omega))),fun _=>⟨rfl,rfl⟩,fun e=>absurd e (by decide)⟩
   · exact⟨[],0,3,fun a cap w h=>do_no a cap C lo 1 x y ua va ub vb ov 3 w hm hp h (fun W gF cF gT cT hd=>QZ8 kf1 a cap C lo gF cF gT cT 3 x y ua va ub vb ov W (fun W2 hW2=>curl_no2 a cap C lo gF cF gT cT 1 x y ua va ub vb ov W2 hl16 hc hy)),fun _=>⟨rfl,rfl⟩,fun e=>absurd e (by decide)⟩
 · have hc':curlB C lo x=false:=by simpa using hc
   exact⟨[],0,3,fun a cap w h=>do_no a cap C lo 1 x y ua va ub vb ov 3 w hm hp h (fun W gF cF gT cT hd=>QZ8 kf1 a cap C lo gF cF gT cT 3 x y ua va ub vb ov W (fun W2 hW2=>curl_no1 a cap C lo gF cF gT cT 1 x y ua va ub vb ov W2 hl16 hc')),fun _=>⟨rfl,rfl⟩,fun e=>absurd e (by decide)⟩
theorem way_2 (x y ua:Int) (ub:Bool) (va:Int) (vb ov:Bool) (hm:mayD C lo=true) (hp:QX1 C=true):∃ (D:List Cr) (l2 ce:Int),Wyq C lo ⟨2,x,y,ua,ub,va,vb,ov⟩ D l2 ce/\(ce≠0->D=[]/\l2=0)/\(ce=0->Don C lo ⟨2,x,y,ua,ub,va,vb,ov⟩ D l2):=by
 by_cases hc:crB C x=true
 · have hx:0<=x/\x<(C.length:Int):=by
     unfold crB at hc
     simpa using hc
   obtain⟨xn,rfl⟩:∃ n:Nat,x=(n:Int):=⟨x.toNat,by omega⟩
   have hxl:xn<C.length:=by omega
   have hs:=curl_same hm xn hxl
   cases hcu:cuB C xn with
   |false=>exact⟨[],0,8,fun a cap w h=>do_no a cap C lo 2 xn y ua va ub vb ov 8 w hm hp h (fun W gF cF gT cT hd=>QZ8 kf2 a cap C lo gF cF gT cT 8 xn y ua va ub vb ov W (fun W2 hW2=>uncurl_no2 a cap C lo gF cF gT cT 2 y ua va xn ub vb ov W2 hm (hd.on hW2) hxl hcu)),fun _=>⟨rfl,rfl⟩,fun e=>absurd e (by decide)⟩
   |true=>
    rw[hcu]at hs
    by_cases hL:takL C lo [xn]<=16
    · have h4:=curl_one hm hp hxl hs rfl hL
      have h5:(takC C [xn]).length+1=C.length:=by
       have:=posG_one (k:=xn) C.length
       rw[if_pos hxl]at this
       unfold takC
       rw[reTo_pos]
       exact this
      exact⟨takC C [xn],takL C lo [xn],0,fun a cap w h=>do_yes a cap C lo 2 xn y ua va ub vb ov _ _ w hm hp h (fun W gF cF gT cT hd=>QU4 kf2 a cap C lo gF cF gT cT xn y ua va ub vb ov W _ _ (fun W2 hW2=>uncurl_yes a cap C lo gF cF gT cT 2 y ua va xn ub vb ov W2 hm (hd.on hW2) hxl hcu hL)),fun e=>absurd rfl e,fun _=>⟨h4.1,h4.2,Or.inr (Or.inr (Or.inr (Or.inl ⟨rfl,h5⟩)))⟩⟩
    · exact⟨[],0,2,fun a cap w h=>do_no a cap C lo 2 xn y ua va ub vb ov 2 w hm hp h (fun W gF cF gT cT hd=>QZ8 kf2 a cap C lo gF cF gT cT 2 xn y ua va ub vb ov W (fun W2 hW2=>uncurl_no3 a cap C lo gF cF gT cT 2 y ua va xn ub vb ov W2 hm (hd.on hW2) hxl hcu (by omega))),fun _=>⟨rfl,rfl⟩,fun e=>absurd e (by decide)⟩
 · have hc':crB C x=false:=by simpa using hc
   exact⟨[],0,3,fun a cap w h=>do_no a cap C lo 2 x y ua va ub vb ov 3 w hm hp h (fun W gF cF gT cT hd=>QZ8 kf2 a cap C lo gF cF gT cT 3 x y ua va ub vb ov W (fun W2 hW2=>uncurl_no1 a cap C lo gF cF gT cT 2 x y ua va ub vb ov W2 hc')),fun _=>⟨rfl,rfl⟩,fun e=>absurd e (by decide)⟩
theorem way_4 (x y ua:Int) (ub:Bool) (va:Int) (vb ov:Bool) (hm:mayD C lo=true) (hp:QX1 C=true):∃ (D:List Cr) (l2 ce:Int),Wyq C lo ⟨4,x,y,ua,ub,va,vb,ov⟩ D l2 ce/\(ce≠0->D=[]/\l2=0)/\(ce=0->Don C lo ⟨4,x,y,ua,ub,va,vb,ov⟩ D l2):=by
 have hcr:∀ z:Int,crB C z=true↔0<=z/\z<(C.length:Int):=fun z=>by unfold crB;simp
 by_cases hc:crB C x=true
 · obtain⟨hx0,hx1⟩:=(hcr x).1 hc
   by_cases hd:crB C y=true
   · obtain⟨hy0,hy1⟩:=(hcr y).1 hd
     obtain⟨xn,rfl⟩:∃ n:Nat,x=(n:Int):=⟨x.toNat,by omega⟩
     obtain⟨yn,rfl⟩:∃ n:Nat,y=(n:Int):=⟨y.toNat,by omega⟩
     have hxl:xn<C.length:=by omega
     have hyl:yn<C.length:=by omega
     by_cases hxy:xn=yn
     · subst hxy
       exact⟨[],0,3,fun a cap w h=>do_no a cap C lo 4 xn xn ua va ub vb ov 3 w hm hp h (fun W gF cF gT cT hd=>QZ8 kf4 a cap C lo gF cF gT cT 3 xn xn ua va ub vb ov W (fun W2 hW2=>pull_no1c a cap C lo gF cF gT cT 4 ua va xn ub vb ov W2 hc)),fun _=>⟨rfl,rfl⟩,fun e=>absurd e (by decide)⟩
     · have hj:jlR C xn yn=jlB C xn yn:=funext (jl_same C xn yn)
       cases hja:(QQ3 C).any (jlB C xn yn) with
       |false=>exact⟨[],0,8,fun a cap w h=>do_no a cap C lo 4 xn yn ua va ub vb ov 8 w hm hp h (fun W gF cF gT cT hd=>QZ8 kf4 a cap C lo gF cF gT cT 8 xn yn ua va ub vb ov W (fun W2 hW2=>pull_no2 a cap C lo gF cF gT cT 4 ua va xn yn ub vb ov W2 hm (hd.on hW2) hxl hyl hxy hja)),fun _=>⟨rfl,rfl⟩,fun e=>absurd e (by decide)⟩
       |true=>
        by_cases hL:takL C lo [xn,yn]<=16
        · have h6:(QQ3 C).any (jlR C xn yn)=true:=by rw[hj];exact hja
          obtain⟨l,hl,hjl⟩:=List.any_eq_true.1 h6
          unfold jlR at hjl
          simp only[Bool.and_eq_true,Bool.or_eq_true,decide_eq_true_eq]at hjl
          have h4:=pull_two hm hp hl hjl.1 hxy hjl.2.1 rfl hL
          have h5:(takC C [xn,yn]).length+2=C.length:=by
           have:=posG_two (p:=xn) (q:=yn) (G:=[xn,yn]) hxy (fun k=>by simp) C.length
           rw[if_pos hxl,if_pos hyl]at this
           unfold takC
           rw[reTo_pos]
           omega
          exact⟨takC C [xn,yn],takL C lo [xn,yn],0,fun a cap w h=>do_yes a cap C lo 4 xn yn ua va ub vb ov _ _ w hm hp h (fun W gF cF gT cT hd=>QU4 kf4 a cap C lo gF cF gT cT xn yn ua va ub vb ov W _ _ (fun W2 hW2=>pull_yes a cap C lo gF cF gT cT 4 ua va xn yn ub vb ov W2 hm (hd.on hW2) hxl hyl hxy hja hL)),fun e=>absurd rfl e,fun _=>⟨h4.1,h4.2,Or.inr (Or.inr (Or.inr (Or.inr ⟨rfl,h5⟩)))⟩⟩
        · exact⟨[],0,2,fun a cap w h=>do_no a cap C lo 4 xn yn ua va ub vb ov 2 w hm hp h (fun W gF cF gT cT hd=>QZ8 kf4 a cap C lo gF cF gT cT 2 xn yn ua va ub vb ov W (fun W2 hW2=>pull_no3 a cap C lo gF cF gT cT 4 ua va xn yn ub vb ov W2 hm (hd.on hW2) hxl hyl hxy hja (by omega))),fun _=>⟨rfl,rfl⟩,fun e=>absurd e (by decide)⟩
   · have hd':crB C y=false:=by simpa using hd
     exact⟨[],0,3,fun a cap w h=>do_no a cap C lo 4 x y ua va ub vb ov 3 w hm hp h (fun W gF cF gT cT hd=>QZ8 kf4 a cap C lo gF cF gT cT 3 x y ua va ub vb ov W (fun W2 hW2=>pull_no1b a cap C lo gF cF gT cT 4 x y ua va ub vb ov W2 hc hd')),fun _=>⟨rfl,rfl⟩,fun e=>absurd e (by decide)⟩
 · have hc':crB C x=false:=by simpa using hc
   exact⟨[],0,3,fun a cap w h=>do_no a cap C lo 4 x y ua va ub vb ov 3 w hm hp h (fun W gF cF gT cT hd=>QZ8 kf4 a cap C lo gF cF gT cT 3 x y ua va ub vb ov W (fun W2 hW2=>pull_no1 a cap C lo gF cF gT cT 4 x y ua va ub vb ov W2 hc')),fun _=>⟨rfl,rfl⟩,fun e=>absurd e (by decide)⟩
theorem way_3 (x y ua:Int) (ub:Bool) (va:Int) (vb ov:Bool) (hm:mayD C lo=true) (hp:QX1 C=true):∃ (D:List Cr) (l2 ce:Int),Wyq C lo ⟨3,x,y,ua,ub,va,vb,ov⟩ D l2 ce/\(ce≠0->D=[]/\l2=0)/\(ce=0->Don C lo ⟨3,x,y,ua,ub,va,vb,ov⟩ D l2):=by
 obtain⟨-,hlo0,hlo16,-⟩:=QZ2 (QK3 hm)
 have hh:∀ z:Int,hasB C z=true↔1<=z/\z<=2*(C.length:Int):=fun z=>by unfold hasB;simp
 by_cases hu:hasB C ua=true
 · obtain⟨hu0,hu9⟩:=(hh ua).1 hu
   by_cases hv:hasB C va=true
   · obtain⟨hv0,hv9⟩:=(hh va).1 hv
     obtain⟨un,rfl⟩:∃ n:Nat,ua=(n:Int):=⟨ua.toNat,by omega⟩
     obtain⟨vn,rfl⟩:∃ n:Nat,va=(n:Int):=⟨va.toNat,by omega⟩
     have hu1:1<=un:=by omega
     have hu2:un<=2*C.length:=by omega
     have hv1:1<=vn:=by omega
     have hv2:vn<=2*C.length:=by omega
     have ru:=mk_le (p:=ub) hu1 hu2
     have rv:=mk_le (p:=vb) hv1 hv2
     obtain⟨b,hb,hF⟩:=face_tells hm (mkD un ub) (mkD vn vb) ru.1 ru.2 rv.1 rv.2
     rw[dA_mk hu1,dB_mk hu1,dA_mk hv1,dB_mk hv1]at hF
     have hP:=fun(a:Option Addr) (cap gF cF gT cT:Nat) (W:World) (hd:Dr W a cap C gF gT)=>push_any a cap C lo gF cF gT cT 3 x y (un:Int) (vn:Int) ub vb ov b W hm hd (fun _ _ W2 hd2=>hF a cap gF cF gT cT W2 hd2)
     have huv:(hasB C (un:Int)&&hasB C (vn:Int))=true:=by rw[hu,hv];rfl
     by_cases he:un=vn
     · subst he
       exact⟨[],0,8,fun a cap w h=>do_no a cap C lo 3 x y un un ub vb ov 8 w hm hp h (fun W gF cF gT cT hd=>QZ8 kf3 a cap C lo gF cF gT cT 8 x y un un ub vb ov W (fun W2 hW2=>(hP a cap gF cF gT cT W2 (hd.on hW2)).mono fun e w' hh=>⟨hh.2.2.1 huv (by simp),hh.1⟩)),fun _=>⟨rfl,rfl⟩,fun e=>absurd e (by decide)⟩
     · have hne:mkD un ub≠mkD vn vb:=fun e=>he (by have:=congrArg dA e;rw[dA_mk hu1,dA_mk hv1]at this;exact this)
       have hbo:=hb hne
       have hdi:(!decide ((un:Int)=(vn:Int))&&b)=b:=by
        have:decide ((un:Int)=(vn:Int))=false:=decide_eq_false (by omega)
        rw[this]
        rfl
       cases hof:ofB C (mkD un ub) (mkD vn vb) with
       |false=>
        rw[hof]at hbo
        rw[hbo]at hdi
        exact⟨[],0,8,fun a cap w h=>do_no a cap C lo 3 x y un vn ub vb ov 8 w hm hp h (fun W gF cF gT cT hd=>QZ8 kf3 a cap C lo gF cF gT cT 8 x y un vn ub vb ov W (fun W2 hW2=>(hP a cap gF cF gT cT W2 (hd.on hW2)).mono fun e w' hh=>⟨hh.2.2.1 huv (by rw[hbo];exact hdi),hh.1⟩)),fun _=>⟨rfl,rfl⟩,fun e=>absurd e (by decide)⟩
       |true=>
        rw[hof]at hbo
        rw[hbo]at hdi
        by_cases hn:C.length+2<=16
        · have hps:=push_same hm un vn ub vb ov hu1 hu2 hv1 hv2
          obtain⟨q1,q2⟩:=pushR_may (ov:=ov) hm hp hu1 hu2 hv1 hv2 he hof hn
          obtain⟨q3,q4⟩:=pushR_back (ov:=ov) hm hp hu1 hu2 hv1 hv2 he hof hn
          have q5:=pushR_jl (ov:=ov) hm hp hu1 hu2 hv1 hv2 he hof hn
          have hD:=pushR_len C un vn ub vb ov
          refine⟨pushR C un ub vn vb ov,lo,0,fun a cap w h=>?_,fun e=>absurd rfl e,fun _=>⟨q1,q2,Or.inr (Or.inl ⟨rfl,hD,take_two_back q1 q2 hD hlo16 q5 q3 q4⟩)⟩⟩
          refine do_yes a cap C lo 3 x y un vn ub vb ov _ _ w hm hp h (fun W gF cF gT cT hd=>QU4 kf3 a cap C lo gF cF gT cT x y un vn ub vb ov W _ _ (fun W2 hW2=>(hP a cap gF cF gT cT W2 (hd.on hW2)).mono fun e w' hh=>?_))
          obtain⟨a2,c2,h3,h4⟩:=hh.2.2.2.2 huv (by rw[hbo];exact hdi) hn
          rw[hps]at h4
          rw[hD]
          exact⟨a2,c2,h3,h4,hh.1⟩
        · exact⟨[],0,2,fun a cap w h=>do_no a cap C lo 3 x y un vn ub vb ov 2 w hm hp h (fun W gF cF gT cT hd=>QZ8 kf3 a cap C lo gF cF gT cT 2 x y un vn ub vb ov W (fun W2 hW2=>(hP a cap gF cF gT cT W2 (hd.on hW2)).mono fun e w' hh=>⟨hh.2.2.2.1 huv (by rw[hbo];exact hdi) hn,hh.1⟩)),fun _=>⟨rfl,rfl⟩,fun e=>absurd e (by decide)⟩
   · have hv':hasB C va=false:=by simpa using hv
     have huv:(hasB C ua&&hasB C va)=false:=by rw[hu,hv'];rfl
     exact⟨[],0,3,fun a cap w h=>do_no a cap C lo 3 x y ua va ub vb ov 3 w hm hp h (fun W gF cF gT cT hd=>QZ8 kf3 a cap C lo gF cF gT cT 3 x y ua va ub vb ov W (fun W2 hW2=>(push_any a cap C lo gF cF gT cT 3 x y ua va ub vb ov false W2 hm (hd.on hW2) (fun _ e=>absurd e hv)).mono fun e w' hh=>⟨hh.2.1 huv,hh.1⟩)),fun _=>⟨rfl,rfl⟩,fun e=>absurd e (by decide)⟩
 · have hu':hasB C ua=false:=by simpa using hu
   have huv:(hasB C ua&&hasB C va)=false:=by rw[hu'];rfl
   exact⟨[],0,3,fun a cap w h=>do_no a cap C lo 3 x y ua va ub vb ov 3 w hm hp h (fun W gF cF gT cT hd=>QZ8 kf3 a cap C lo gF cF gT cT 3 x y ua va ub vb ov W (fun W2 hW2=>(push_any a cap C lo gF cF gT cT 3 x y ua va ub vb ov false W2 hm (hd.on hW2) (fun e _=>absurd e hu)).mono fun e w' hh=>⟨hh.2.1 huv,hh.1⟩)),fun _=>⟨rfl,rfl⟩,fun e=>absurd e (by decide)⟩
theorem way_5 (x y ua:Int) (ub:Bool) (va:Int) (vb ov:Bool) (hm:mayD C lo=true) (hp:QX1 C=true):∃ (D:List Cr) (l2 ce:Int),Wyq C lo ⟨5,x,y,ua,ub,va,vb,ov⟩ D l2 ce/\(ce≠0->D=[]/\l2=0)/\(ce=0->Don C lo ⟨5,x,y,ua,ub,va,vb,ov⟩ D l2)/\(Sld C x D∨ce≠0/\∀ E,¬ Sld C x E):=by
 by_cases hx:0<=x/\x<((QQ3 C).length:Int)
 · obtain⟨xn,rfl⟩:∃ n:Nat,x=(n:Int):=⟨x.toNat,by omega⟩
   have hxl:xn<(QQ3 C).length:=by omega
   obtain⟨l,hll⟩:∃ l,(QQ3 C).getD xn []=l:=⟨_,rfl⟩
   have hin:l∈QQ3 C:=by
    rw[<-hll,List.getD_eq_getElem?_getD,List.getElem?_eq_getElem hxl]
    exact List.getElem_mem hxl
   have uni:∀ E,Sld C (xn:Int) E->l.length=3/\slR C l=true:=fun E hE=>by
    obtain⟨i,l',e1,-,e3,e4,e5,-⟩:=hE
    have e6:xn=i:=by omega
    rw[<-e6,hll]at e3
    rw[e3]
    exact⟨e4,e5⟩
   by_cases h3:l.length=3
   · have hst:=slide_tells hm hin h3
     cases hs:slR C l with
     |false=>
      rw[hs]at hst
      refine⟨[],0,8,fun a cap w h=>do_no a cap C lo 5 xn y ua va ub vb ov 8 w hm hp h (fun W gF cF gT cT hd=>QZ8 kf5 a cap C lo gF cF gT cT 8 xn y ua va ub vb ov W (fun W2 hW2=>?_)),fun _=>⟨rfl,rfl⟩,fun e=>absurd e (by decide),Or.inr ⟨by decide,fun E hE=>by have:=(uni E hE).2;rw[hs]at this;cases this⟩⟩
      cases htr:triB C l with
      |false=>exact slide_no3 a cap C lo gF cF gT cT 5 y ua va xn ub vb ov W2 hm (hd.on hW2) l hxl hll h3 htr
      |true=>
       rw[htr,Bool.true_and]at hst
       exact slide_no4 a cap C lo gF cF gT cT 5 y ua va xn ub vb ov W2 hm (hd.on hW2) l hxl hll h3 htr hst.symm
     |true=>
      rw[hs]at hst
      have hb:triB C l=true/\(topB C l&&botB C l)=true:=by
       have:=hst.symm
       rw[Bool.and_eq_true]at this
       exact this
      have hsm:=slide_same hm hin h3 hb.1
      have hD:(slLs C l 3).length=C.length:=slLs_len C l 3
      obtain⟨q1,q2,-⟩:=slide_all hm hp hin h3 hs
      have hS:Sld C (xn:Int) (slLs C l 3):=⟨xn,l,rfl,hxl,hll,h3,hs,rfl⟩
      refine⟨slLs C l 3,lo,0,fun a cap w h=>?_,fun e=>absurd rfl e,fun _=>⟨q1,q2,Or.inr (Or.inr (Or.inl ⟨rfl,hD,rfl,hS⟩))⟩,Or.inl hS⟩
      refine do_yes a cap C lo 5 xn y ua va ub vb ov _ _ w hm hp h (fun W gF cF gT cT hd=>QU4 kf5 a cap C lo gF cF gT cT xn y ua va ub vb ov W _ _ (fun W2 hW2=>?_))
      have h2:=slide_yes a cap C lo gF cF gT cT 5 y ua va xn ub vb ov W2 hm (hd.on hW2) l hxl hll h3 hb.1 hb.2
      rw[hsm]at h2
      rw[hD]
      exact h2
   · exact⟨[],0,8,fun a cap w h=>do_no a cap C lo 5 xn y ua va ub vb ov 8 w hm hp h (fun W gF cF gT cT hd=>QZ8 kf5 a cap C lo gF cF gT cT 8 xn y ua va ub vb ov W (fun W2 hW2=>slide_no2 a cap C lo gF cF gT cT 5 y ua va xn ub vb ov W2 hm (hd.on hW2) l hxl hll h3)),fun _=>⟨rfl,rfl⟩,fun e=>absurd e (by decide),Or.inr ⟨by decide,fun E hE=>h3 (uni E hE).1⟩⟩
 · refine⟨[],0,3,fun a cap w h=>do_no a cap C lo 5 x y ua va ub vb ov 3 w hm hp h (fun W gF cF gT cT hd=>QZ8 kf5 a cap C lo gF cF gT cT 3 x y ua va ub vb ov W (fun W2 hW2=>?_)),fun _=>⟨rfl,rfl⟩,fun e=>absurd e (by decide),Or.inr ⟨by decide,fun E hE=>by obtain⟨i,l',e1,e2,-⟩:=hE;exact hx (by omega)⟩⟩
   by_cases h0:x<0
   · exact slide_no1a a cap C lo gF cF gT cT 5 x y ua va ub vb ov W2 hm (hd.on hW2) h0
   · exact slide_no1b a cap C lo gF cF gT cT 5 x y ua va ub vb ov W2 hm (hd.on hW2) (by omega) (by omega)
theorem ways_all (m:Mo) (hm:mayD C lo=true) (hp:QX1 C=true):∃ (D:List Cr) (l2 ce:Int),Wyq C lo m D l2 ce/\(ce≠0->D=[]/\l2=0)/\(ce=0->Don C lo m D l2):=by
 obtain⟨k,x,y,ua,ub,va,vb,ov⟩:=m
 by_cases h1:k=1
 · subst h1;exact way_1 x y ua ub va vb ov hm hp
 · by_cases h2:k=2
   · subst h2;exact way_2 x y ua ub va vb ov hm hp
   · by_cases h3:k=3
     · subst h3;exact way_3 x y ua ub va vb ov hm hp
     · by_cases h4:k=4
       · subst h4;exact way_4 x y ua ub va vb ov hm hp
       · by_cases h5:k=5
         · subst h5
           obtain⟨D,l2,ce,q1,q2,q3,-⟩:=way_5 x y ua ub va vb ov hm hp
           exact⟨D,l2,ce,q1,q2,q3⟩
         · exact⟨[],0,6,fun a cap w h=>do_no a cap C lo k x y ua va ub vb ov 6 w hm hp h (fun W gF cF gT cT _=>moved_kind a cap C lo gF cF gT cT k x y ua va ub vb ov W h1 h2 h3 h4 h5),fun _=>⟨rfl,rfl⟩,fun e=>absurd e (by decide)⟩
end
end Go.Proofs.Ytagaajlbkfkaiaa
