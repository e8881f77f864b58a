/- Several texts of the proof, one behind the other. -/
import Derived.Test.YtagaajlbkfkaiaaMV2P
import Derived.Test.YtagaajlbkfkaiaaMV3
import Derived.Test.YtagaajlbkfkaiaaMV9
import Derived.Test.YtagaajlbkfkaiaaMVt
import Derived.Test.YtagaajlbkfkaiaaMW1P
import Derived.Test.YtagaajlbkfkaiaaMW4
import Derived.Test.YtagaajlbkfkaiaaMW5
import Derived.Test.YtagaajlbkfkaiaaME14
import Derived.Test.YtagaajlbkfkaiaaOpenP
import Derived.Test.YtagaajlbkfkaiaaO0P
/- Moves: what laid and moved do and the document's DoMove answers, side by side. Made by genmpa.py out of MP1. -/
namespace Go.Proofs.Ytagaajlbkfkaiaa
open Go.RowKit
theorem faceRingsM:FaceRingsOk:=fun a cap C loops gF cF gT cT w hm hD=>faceRings_ok a cap C loops gF cF gT cT w hm hD
theorem laid_all (a:Option Addr) (cap:Nat) (C:List Cr) (loops:Int) (w:World) (hm:mayD C loops=true) (hp:planarB C=true) (h:Crs w w.heap.size (.slice a C.length cap) C):∀ W,Below w.heap.size w W->Calls Try.prog 29 #[.agg #[.slice a C.length cap,.int .i64 loops]] W fun e w'=>∃ gF cF gT cT,e=.returned (drV a cap C loops gF cF gT cT)/\Dr w' a cap C gF gT/\Below W.heap.size W w':=
 fun W hW=>(laid_yes faceRingsM a cap C loops W hm hp (h.up hW)).mono fun _ _ ⟨gF,cF,gT,cT,h1,h2,h3⟩=>⟨gF,cF,gT,cT,h1,h2.1,h3⟩
theorem do_no (a:Option Addr) (cap:Nat) (C:List Cr) (loops k x y ua va:Int) (ub vb ov:Bool) (why:Int) (w:World) (hm:mayD C loops=true) (hp:planarB C=true) (h:Crs w w.heap.size (.slice a C.length cap) C)
    (hM:∀ W gF cF gT cT,Dr W a cap C gF gT->Calls Try.prog 30 #[drV a cap C loops gF cF gT cT,mvV k x y ua ub va vb ov] W fun e w'=>e=.panicked (gaveUp why)/\Below W.heap.size W w') (hw:why≠0:=by decide):
    Ways a cap C loops ⟨k,x,y,ua,ub,va,vb,ov⟩ [] 0 why w:=Or.inr ⟨laid_all a cap C loops w hm hp h,Or.inl ⟨rfl,rfl,hw,hM⟩⟩
theorem do_yes (a:Option Addr) (cap:Nat) (C:List Cr) (loops k x y ua va:Int) (ub vb ov:Bool) (D:List Cr) (lo:Int) (w:World) (hm:mayD C loops=true) (hp:planarB C=true) (h:Crs w w.heap.size (.slice a C.length cap) C)
    (hM:∀ W gF cF gT cT,Dr W a cap C gF gT->Calls Try.prog 30 #[drV a cap C loops gF cF gT cT,mvV k x y ua ub va vb ov] W fun e w'=>∃ a2 c2,e=.returned (.agg #[.slice a2 D.length c2,.int .i64 lo])/\w'.ownsRow W.heap.size 71 5 (.slice a2 D.length c2) D.length (crossCells D)/\Below W.heap.size W w'):
    Ways a cap C loops ⟨k,x,y,ua,ub,va,vb,ov⟩ D lo 0 w:=Or.inr ⟨laid_all a cap C loops w hm hp h,Or.inr ⟨rfl,hM⟩⟩
def Pair (C:List Cr) (loops k x y ua:Int) (ub:Bool) (va:Int) (vb ov:Bool) (D:List Cr) (lo ce:Int):Prop:=
 (∀ (a:Option Addr) (cap:Nat) (w:World),Crs w w.heap.size (.slice a C.length cap) C->Ways a cap C loops ⟨k,x,y,ua,ub,va,vb,ov⟩ D lo ce w)/\
 (∀ (a:Option Addr) (cap:Nat) (w:World),CrsW w w.heap.size (.slice a C.length cap) C->Calls Try.prog 11 #[.agg #[.slice a C.length cap,.int .i64 loops],mvV k x y ua ub va vb ov] w fun e w'=>RsAt w D lo ce e w')
theorem pair_plane {C:List Cr} {loops:Int} (k x y ua:Int) (ub:Bool) (va:Int) (vb ov:Bool) (hl:C.length<=maxLen) (hm:mayD C loops=true) (hp:planarB C=false):Pair C loops k x y ua ub va vb ov [] 0 7:=
 ⟨fun _ _ _ h=>Or.inl ⟨rfl,rfl,rfl,fun W hW=>laid_bad faceRingsM _ C loops W hm hp (h.up hW)⟩,
  fun a cap w h=>doMove_plane a cap C loops k x y ua va ub vb ov w hl hm hp h⟩
theorem pair_kind {C:List Cr} {loops:Int} (k x y ua:Int) (ub:Bool) (va:Int) (vb ov:Bool) (hl:C.length<=maxLen) (hm:mayD C loops=true) (hp:planarB C=true) (h1:k≠1) (h2:k≠2) (h3:k≠3) (h4:k≠4) (h5:k≠5):Pair C loops k x y ua ub va vb ov [] 0 6:=
 ⟨fun a cap w h=>do_no a cap C loops k x y ua va ub vb ov 6 w hm hp h (fun W gF cF gT cT _=>moved_kind a cap C loops gF cF gT cT k x y ua va ub vb ov W h1 h2 h3 h4 h5),
  fun a cap w h=>doMove_kind a cap C loops k x y ua va ub vb ov w hl hm hp h h1 h2 h3 h4 h5⟩
theorem pair_1 {C:List Cr} {loops:Int} (x y ua:Int) (ub:Bool) (va:Int) (vb ov:Bool) (hl:C.length<=maxLen) (hm:mayD C loops=true) (hp:planarB C=true):∃ D lo ce,Pair C loops 1 x y ua ub va vb ov D lo ce:=by
 have hl16:=may_len hm
 obtain⟨-,hlo0,-,-⟩:=sizeB_iff (may_size hm)
 by_cases hc:curlB C loops x=true
 · by_cases hy:0<=y/\y<4
   · obtain⟨yn,rfl⟩:∃ n:Nat,y=(n:Int):=⟨y.toNat,by omega⟩
     by_cases hn:C.length<16
     · by_cases hx0:x=0
       · subst hx0
         have hlp:0<loops:=by
          unfold curlB hasB at hc
          simp at hc
          exact hc
         have hD:(C++[crossX (2*(C.length:Int)+1,2*(C.length:Int)+2) (2*(C.length:Int)+2,2*(C.length:Int)+1) (decide (2<=yn)) (decide (yn%2=1))]).length=C.length+1:=by simp
         refine⟨C++[crossX (2*(C.length:Int)+1,2*(C.length:Int)+2) (2*(C.length:Int)+2,2*(C.length:Int)+1) (decide (2<=yn)) (decide (yn%2=1))],loops-1,0,fun a cap w h=>?_,fun a cap w h=>?_⟩
         · refine do_yes a cap C loops 1 0 yn ua va ub vb ov _ _ w hm hp h (fun W gF cF gT cT hd=>moved_yes kf1 a cap C loops gF cF gT cT 0 yn ua va ub vb ov W _ _ (fun W2 hW2=>?_))
           have h2:=curl_yes0 a cap C loops gF cF gT cT 1 ua va yn ub vb ov W2 hm hlp (by omega) hn (hd.on hW2)
           rw[relN_none]at h2
           rw[hD]
           refine h2.mono fun e w' hh=>?_
           obtain⟨a2,c2,h3,h4,h5⟩:=hh
           exact⟨a2,c2,h3,by simpa using h4,h5⟩
         · refine doMove_1 a cap C loops 0 yn (loops-1) 0 _ ua va ub vb ov w hl hm hp h (fun W hW=>?_)
           refine(curlOf_yes0 a cap C loops 1 ua va yn ub vb ov W hm hlp (by omega) hn (h.up hW)).mono fun e w' hh=>?_
           obtain⟨a2,c2,h3,h4,h5⟩:=hh
           unfold RsAt
           rw[hD]
           exact⟨a2,c2,h3,h4,h5⟩
       · have hxx:1<=x/\x<=2*(C.length:Int):=by
           unfold curlB hasB at hc
           simp at hc
           omega
         obtain⟨xn,rfl⟩:∃ n:Nat,x=(n:Int):=⟨x.toNat,by omega⟩
         have hD:(setL C (toC C xn) (toS C xn) (2*(C.length:Int)+2)++[crossX ((xn:Int),2*(C.length:Int)+1) (2*(C.length:Int)+1,2*(C.length:Int)+2) (decide (2<=yn)) (decide (yn%2=1))]).length=C.length+1:=by simp[setL_len]
         refine⟨setL C (toC C xn) (toS C xn) (2*(C.length:Int)+2)++[crossX ((xn:Int),2*(C.length:Int)+1) (2*(C.length:Int)+1,2*(C.length:Int)+2) (decide (2<=yn)) (decide (yn%2=1))],loops,0,fun a cap w h=>?_,fun a cap w h=>?_⟩
         · refine do_yes a cap C loops 1 xn yn ua va ub vb ov _ _ w hm hp h (fun W gF cF gT cT hd=>moved_yes kf1 a cap C loops gF cF gT cT xn yn ua va ub vb ov W _ _ (fun W2 hW2=>?_))
           have h2:=curl_yes1 a cap C loops gF cF gT cT 1 ua va xn yn ub vb ov W2 hm (by omega) (by omega) (by omega) hn (hd.on hW2)
           rw[curl_spots hm xn _ (by omega) (by omega)]at h2
           rw[hD]
           refine h2.mono fun e w' hh=>?_
           obtain⟨a2,c2,h3,h4,h5⟩:=hh
           refine⟨a2,c2,h3,?_,h5⟩
           simpa using h4
         · refine doMove_1 a cap C loops xn yn loops 0 _ ua va ub vb ov w hl hm hp h (fun W hW=>?_)
           refine(curlOf_yes1 a cap C loops 1 ua va xn yn ub vb ov W hm (by omega) (by omega) (by omega) hn (h.up hW)).mono fun e w' hh=>?_
           obtain⟨a2,c2,h3,h4,h5⟩:=hh
           unfold RsAt
           rw[hD]
           exact⟨a2,c2,h3,h4,h5⟩
     · refine⟨[],0,2,fun a cap w h=>?_,fun a cap w h=>?_⟩
       · exact do_no a cap C loops 1 x yn ua va ub vb ov 2 w hm hp h (fun W gF cF gT cT hd=>moved_no kf1 a cap C loops gF cF gT cT 2 x yn ua va ub vb ov W (fun W2 hW2=>curl_no3 a cap C loops gF cF gT cT 1 x yn ua va ub vb ov W2 hl16 hc (by omega) (by omega) (by omega)))
       · refine doMove_1 a cap C loops x yn 0 2 [] ua va ub vb ov w hl hm hp h (fun W hW=>?_)
         by_cases hx0:x=0
         · subst hx0
           have hlp:loops≠0:=by
            unfold curlB hasB at hc
            simp at hc
            omega
           exact(curlOf_no a cap C loops 1 0 yn ua va ub vb ov 2 W hl16 (by omega)).mono fun e w' ⟨h1,h2⟩=>h1▸RsAt.no h2
         · have hxx:1<=x/\x<=2*(C.length:Int):=by
             unfold curlB hasB at hc
             simp at hc
             omega
           exact(curlOf_no a cap C loops 1 x yn ua va ub vb ov 2 W hl16 (by omega)).mono fun e w' ⟨h1,h2⟩=>h1▸RsAt.no h2
   · refine⟨[],0,3,fun a cap w h=>?_,fun a cap w h=>?_⟩
     · exact do_no a cap C loops 1 x y ua va ub vb ov 3 w hm hp h (fun W gF cF gT cT hd=>moved_no kf1 a cap C loops gF cF gT cT 3 x y ua va ub vb ov W (fun W2 hW2=>curl_no2 a cap C loops gF cF gT cT 1 x y ua va ub vb ov W2 hl16 hc hy))
     · refine doMove_1 a cap C loops x y 0 3 [] ua va ub vb ov w hl hm hp h (fun W hW=>?_)
       by_cases hy0:y<0
       · exact(curlOf_no a cap C loops 1 x y ua va ub vb ov 3 W hl16 (by omega)).mono fun e w' ⟨h1,h2⟩=>h1▸RsAt.no h2
       · exact(curlOf_no a cap C loops 1 x y ua va ub vb ov 3 W hl16 (by omega)).mono fun e w' ⟨h1,h2⟩=>h1▸RsAt.no h2
 · have hc':curlB C loops x=false:=by simpa using hc
   refine⟨[],0,3,fun a cap w h=>?_,fun a cap w h=>?_⟩
   · exact do_no a cap C loops 1 x y ua va ub vb ov 3 w hm hp h (fun W gF cF gT cT hd=>moved_no kf1 a cap C loops gF cF gT cT 3 x y ua va ub vb ov W (fun W2 hW2=>curl_no1 a cap C loops gF cF gT cT 1 x y ua va ub vb ov W2 hl16 hc'))
   · refine doMove_1 a cap C loops x y 0 3 [] ua va ub vb ov w hl hm hp h (fun W hW=>?_)
     by_cases hy0:y<0
     · exact(curlOf_no a cap C loops 1 x y ua va ub vb ov 3 W hl16 (by omega)).mono fun e w' ⟨h1,h2⟩=>h1▸RsAt.no h2
     · by_cases hy3:3<y
       · exact(curlOf_no a cap C loops 1 x y ua va ub vb ov 3 W hl16 (by omega)).mono fun e w' ⟨h1,h2⟩=>h1▸RsAt.no h2
       · by_cases hx0:x<0
         · exact(curlOf_no a cap C loops 1 x y ua va ub vb ov 3 W hl16 (by omega)).mono fun e w' ⟨h1,h2⟩=>h1▸RsAt.no h2
         · by_cases hx1:2*(C.length:Int)<x
           · exact(curlOf_no a cap C loops 1 x y ua va ub vb ov 3 W hl16 (by omega)).mono fun e w' ⟨h1,h2⟩=>h1▸RsAt.no h2
           · have hxz:x=0/\loops=0:=by
               unfold curlB hasB at hc'
               simp at hc'
               omega
             obtain⟨rfl,hlz⟩:=hxz
             exact(curlOf_no a cap C loops 1 0 y ua va ub vb ov 3 W hl16 (by omega)).mono fun e w' ⟨h1,h2⟩=>h1▸RsAt.no h2
end Go.Proofs.Ytagaajlbkfkaiaa
/- Moves: uncurls, pushes, pulls and slides, side by side. Made by genmpa.py out of MP2. -/
namespace Go.Proofs.Ytagaajlbkfkaiaa
open Go.RowKit
theorem take_two {C:List Cr} {loops:Int} (hm:mayD C loops=true) (G:List Nat):reTo C G (numM (uniM C (nx C) G) (thG C G (uniM C (nx C) G) C.length 0)) C.length=takC C G/\loops+(cntB (nfB (uniM C (nx C) G) (thG C G (uniM C (nx C) G) C.length 0)) (2*C.length+1):Nat)=takL C loops G:=by
 obtain⟨h1,h2⟩:=take_same hm (nx_goes hm) G _ rfl
 refine⟨h1,?_⟩
 unfold takL
 rw[h2]
theorem pair_2 {C:List Cr} {loops:Int} (x y ua:Int) (ub:Bool) (va:Int) (vb ov:Bool) (hl:C.length<=maxLen) (hm:mayD C loops=true) (hp:planarB C=true):∃ D lo ce,Pair C loops 2 x y ua ub va vb ov D lo ce:=by
 by_cases hc:crB C x=true
 · have hx:0<=x/\x<(C.length:Int):=by
     unfold crB at hc
     simpa using hc
   obtain⟨xn,rfl⟩:∃ n:Nat,x=(n:Int):=⟨x.toNat,by omega⟩
   have hxl:xn<C.length:=by omega
   have hs:=curl_same hm xn hxl
   cases hcu:cuB C xn with
   |false=>
    rw[hcu]at hs
    refine⟨[],0,8,fun a cap w h=>?_,fun a cap w h=>?_⟩
    · exact do_no a cap C loops 2 xn y ua va ub vb ov 8 w hm hp h (fun W gF cF gT cT hd=>moved_no kf2 a cap C loops gF cF gT cT 8 xn y ua va ub vb ov W (fun W2 hW2=>uncurl_no2 a cap C loops gF cF gT cT 2 y ua va xn ub vb ov W2 hm (hd.on hW2) hxl hcu))
    · exact doMove_2c a cap C loops y xn ua va ub vb ov w hl hm hp h hxl hs
   |true=>
    rw[hcu]at hs
    obtain⟨h1,h2⟩:=take_two hm [xn]
    by_cases hL:takL C loops [xn]<=16
    · refine⟨takC C [xn],takL C loops [xn],0,fun a cap w h=>?_,fun a cap w h=>?_⟩
      · exact do_yes a cap C loops 2 xn y ua va ub vb ov _ _ w hm hp h (fun W gF cF gT cT hd=>moved_yes kf2 a cap C loops gF cF gT cT xn y ua va ub vb ov W _ _ (fun W2 hW2=>uncurl_yes a cap C loops gF cF gT cT 2 y ua va xn ub vb ov W2 hm (hd.on hW2) hxl hcu hL))
      · exact doMove_2e a cap C loops y xn ua va ub vb ov w hl hm hp h hxl hs _ _ h1 h2 hL
    · refine⟨[],0,2,fun a cap w h=>?_,fun a cap w h=>?_⟩
      · exact do_no a cap C loops 2 xn y ua va ub vb ov 2 w hm hp h (fun W gF cF gT cT hd=>moved_no kf2 a cap C loops gF cF gT cT 2 xn y ua va ub vb ov W (fun W2 hW2=>uncurl_no3 a cap C loops gF cF gT cT 2 y ua va xn ub vb ov W2 hm (hd.on hW2) hxl hcu (by omega)))
      · exact doMove_2d a cap C loops y xn ua va ub vb ov w hl hm hp h hxl hs _ _ h1 h2 (by omega)
 · have hc':crB C x=false:=by simpa using hc
   have hx:x<0∨(C.length:Int)<=x:=by
    unfold crB at hc'
    simp at hc'
    omega
   refine⟨[],0,3,fun a cap w h=>?_,fun a cap w h=>?_⟩
   · exact do_no a cap C loops 2 x y ua va ub vb ov 3 w hm hp h (fun W gF cF gT cT hd=>moved_no kf2 a cap C loops gF cF gT cT 3 x y ua va ub vb ov W (fun W2 hW2=>uncurl_no1 a cap C loops gF cF gT cT 2 x y ua va ub vb ov W2 hc'))
   · by_cases hx0:x<0
     · exact doMove_2a a cap C loops x y ua va ub vb ov w hl hm hp h hx0
     · exact doMove_2b a cap C loops x y ua va ub vb ov w hl hm hp h (by omega) (by omega)
theorem pair_4 {C:List Cr} {loops:Int} (x y ua:Int) (ub:Bool) (va:Int) (vb ov:Bool) (hl:C.length<=maxLen) (hm:mayD C loops=true) (hp:planarB C=true):∃ D lo ce,Pair C loops 4 x y ua ub va vb ov D lo ce:=by
 have hcr:∀ z:Int,crB C z=true↔0<=z/\z<(C.length:Int):=fun z=>by unfold crB;simp
 by_cases hc:crB C x=true
 · obtain⟨hx0,hx1⟩:=(hcr x).1 hc
   by_cases hd:crB C y=true
   · obtain⟨hy0,hy1⟩:=(hcr y).1 hd
     obtain⟨xn,rfl⟩:∃ n:Nat,x=(n:Int):=⟨x.toNat,by omega⟩
     obtain⟨yn,rfl⟩:∃ n:Nat,y=(n:Int):=⟨y.toNat,by omega⟩
     have hxl:xn<C.length:=by omega
     have hyl:yn<C.length:=by omega
     by_cases hxy:xn=yn
     · subst hxy
       refine⟨[],0,3,fun a cap w h=>?_,fun a cap w h=>?_⟩
       · exact do_no a cap C loops 4 xn xn ua va ub vb ov 3 w hm hp h (fun W gF cF gT cT hd=>moved_no kf4 a cap C loops gF cF gT cT 3 xn xn ua va ub vb ov W (fun W2 hW2=>pull_no1c a cap C loops gF cF gT cT 4 ua va xn ub vb ov W2 hc))
       · exact doMove_4h a cap C loops xn ua va ub vb ov w hl hm hp h hx0 hx1
     · have hj:jlR C xn yn=jlB C xn yn:=funext (jl_same C xn yn)
       cases hja:(facesM C).any (jlB C xn yn) with
       |false=>
        refine⟨[],0,8,fun a cap w h=>?_,fun a cap w h=>?_⟩
        · exact do_no a cap C loops 4 xn yn ua va ub vb ov 8 w hm hp h (fun W gF cF gT cT hd=>moved_no kf4 a cap C loops gF cF gT cT 8 xn yn ua va ub vb ov W (fun W2 hW2=>pull_no2 a cap C loops gF cF gT cT 4 ua va xn yn ub vb ov W2 hm (hd.on hW2) hxl hyl hxy hja))
        · exact doMove_4c a cap C loops xn yn ua va ub vb ov w hl hm hp h hxl hyl hxy (by rw[hj];exact hja)
       |true=>
        obtain⟨h1,h2⟩:=take_two hm [xn,yn]
        by_cases hL:takL C loops [xn,yn]<=16
        · refine⟨takC C [xn,yn],takL C loops [xn,yn],0,fun a cap w h=>?_,fun a cap w h=>?_⟩
          · exact do_yes a cap C loops 4 xn yn ua va ub vb ov _ _ w hm hp h (fun W gF cF gT cT hd=>moved_yes kf4 a cap C loops gF cF gT cT xn yn ua va ub vb ov W _ _ (fun W2 hW2=>pull_yes a cap C loops gF cF gT cT 4 ua va xn yn ub vb ov W2 hm (hd.on hW2) hxl hyl hxy hja hL))
          · exact doMove_4e a cap C loops xn yn ua va ub vb ov w hl hm hp h hxl hyl hxy (by rw[hj];exact hja) _ _ h1 h2 hL
        · refine⟨[],0,2,fun a cap w h=>?_,fun a cap w h=>?_⟩
          · exact do_no a cap C loops 4 xn yn ua va ub vb ov 2 w hm hp h (fun W gF cF gT cT hd=>moved_no kf4 a cap C loops gF cF gT cT 2 xn yn ua va ub vb ov W (fun W2 hW2=>pull_no3 a cap C loops gF cF gT cT 4 ua va xn yn ub vb ov W2 hm (hd.on hW2) hxl hyl hxy hja (by omega)))
          · exact doMove_4d a cap C loops xn yn ua va ub vb ov w hl hm hp h hxl hyl hxy (by rw[hj];exact hja) _ _ h1 h2 (by omega)
   · have hd':crB C y=false:=by simpa using hd
     refine⟨[],0,3,fun a cap w h=>?_,fun a cap w h=>?_⟩
     · exact do_no a cap C loops 4 x y ua va ub vb ov 3 w hm hp h (fun W gF cF gT cT hd=>moved_no kf4 a cap C loops gF cF gT cT 3 x y ua va ub vb ov W (fun W2 hW2=>pull_no1b a cap C loops gF cF gT cT 4 x y ua va ub vb ov W2 hc hd'))
     · by_cases hy0:y<0
       · exact doMove_4f a cap C loops x y ua va ub vb ov w hl hm hp h hx0 hx1 hy0
       · exact doMove_4g a cap C loops x y ua va ub vb ov w hl hm hp h hx0 hx1 (by omega) (by
           have h1:¬ (0<=y/\y<(C.length:Int)):=fun q=>hd ((hcr y).2 q)
           omega)
 · have hc':crB C x=false:=by simpa using hc
   refine⟨[],0,3,fun a cap w h=>?_,fun a cap w h=>?_⟩
   · exact do_no a cap C loops 4 x y ua va ub vb ov 3 w hm hp h (fun W gF cF gT cT hd=>moved_no kf4 a cap C loops gF cF gT cT 3 x y ua va ub vb ov W (fun W2 hW2=>pull_no1 a cap C loops gF cF gT cT 4 x y ua va ub vb ov W2 hc'))
   · by_cases hx0:x<0
     · exact doMove_4a a cap C loops x y ua va ub vb ov w hl hm hp h hx0
     · exact doMove_4b a cap C loops x y ua va ub vb ov w hl hm hp h (by omega) (by
         have h1:¬ (0<=x/\x<(C.length:Int)):=fun q=>hc ((hcr x).2 q)
         omega)
theorem face_tells {C:List Cr} {loops:Int} (hm:mayD C loops=true) (u v:Nat) (hu1:1<=u) (hu2:u<=4*C.length) (hv1:1<=v) (hv2:v<=4*C.length):∃ b:Bool,(u≠v->b=ofB C u v)/\∀ (a:Option Addr) (cap gF cF gT cT:Nat) (W:World),Dr W a cap C gF gT->Calls Try.prog 110 #[drV a cap C loops gF cF gT cT,.agg #[.int .i64 (dA u:Nat),.bool (dB u)],.agg #[.int .i64 (dA v:Nat),.bool (dB v)]] W fun e w'=>e=.returned (.bool b)/\Below W.heap.size W w':=by
 obtain⟨g,p,h0,h1,h2,h3,h4,h5,h6⟩:=face_orbit hm u hu1 hu2
 obtain⟨b,hb⟩:∃ b:Bool,b=true↔∃ r,0<r/\r<p/\g r=v:=by
  rcases Classical.em (∃ r,0<r/\r<p/\g r=v) with h|h
  · exact⟨true,⟨fun _=>h,fun _=>rfl⟩⟩
  · exact⟨false,⟨fun e=>(by cases e),fun e=>absurd e h⟩⟩
 refine⟨b,fun hne=>?_,fun a cap gF cF gT cT W hd=>onOneFace_any a cap C loops gF cF gT cT u v g p b W hm hu1 hv1 hd h0 h1 h2 h3 h4 h5 hb⟩
 rw[Bool.eq_iff_iff,hb,one_face u v hu1 hu2 hv1 hv2]
 exact(h6 v hv1 hv2 (fun e=>hne e.symm)).symm
theorem push_same {C:List Cr} {loops:Int} (hm:mayD C loops=true) (un vn:Nat) (ub vb ov:Bool) (hu1:1<=un) (hu2:un<=2*C.length) (hv1:1<=vn) (hv2:vn<=2*C.length):pushX C (un:Int) ub (vn:Int) vb ov=pushR C un ub vn vb ov:=by
 obtain⟨-,a1,a2,-,-⟩:=to_may hm un hu1 hu2
 obtain⟨-,b1,b2,-,-⟩:=to_may hm vn hv1 hv2
 have e1:2*(C.length:Int)+1+1=2*(C.length:Int)+2:=by omega
 have e3:2*(C.length:Int)+3+1=2*(C.length:Int)+4:=by omega
 unfold pushR
 rw[e1,e3,List.append_assoc]
 have hr:relN (putF (putF (fun _=>none) (4*toC C un+4+toS C un) (2*(C.length:Int)+2)) (4*toC C vn+4+toS C vn) (2*(C.length:Int)+4)) C C.length=setL (setL C (toC C un) (toS C un) (2*(C.length:Int)+2)) (toC C vn) (toS C vn) (2*(C.length:Int)+4):=by
  rw[relN_put _ _ _ _ _ _ b1 b2,relN_put _ _ _ _ _ _ a1 a2,relN_none]
 rw[<-hr,<-push_p,<-push_q]
 rfl
theorem pair_3 {C:List Cr} {loops:Int} (x y ua:Int) (ub:Bool) (va:Int) (vb ov:Bool) (hl:C.length<=maxLen) (hm:mayD C loops=true) (hp:planarB C=true):∃ D lo ce,Pair C loops 3 x y ua ub va vb ov D lo ce:=by
 have hh:∀ z:Int,hasB C z=true↔1<=z/\z<=2*(C.length:Int):=fun z=>by unfold hasB;simp
 by_cases hu:hasB C ua=true
 · obtain⟨hu0,hu9⟩:=(hh ua).1 hu
   by_cases hv:hasB C va=true
   · obtain⟨hv0,hv9⟩:=(hh va).1 hv
     obtain⟨un,rfl⟩:∃ n:Nat,ua=(n:Int):=⟨ua.toNat,by omega⟩
     obtain⟨vn,rfl⟩:∃ n:Nat,va=(n:Int):=⟨va.toNat,by omega⟩
     have hu1:1<=un:=by omega
     have hu2:un<=2*C.length:=by omega
     have hv1:1<=vn:=by omega
     have hv2:vn<=2*C.length:=by omega
     have ru:=mk_le (p:=ub) hu1 hu2
     have rv:=mk_le (p:=vb) hv1 hv2
     obtain⟨b,hb,hF⟩:=face_tells hm (mkD un ub) (mkD vn vb) ru.1 ru.2 rv.1 rv.2
     rw[dA_mk hu1,dB_mk hu1,dA_mk hv1,dB_mk hv1]at hF
     have hP:=fun(a:Option Addr) (cap gF cF gT cT:Nat) (W:World) (hd:Dr W a cap C gF gT)=>push_any a cap C loops gF cF gT cT 3 x y (un:Int) (vn:Int) ub vb ov b W hm hd (fun _ _ W2 hd2=>hF a cap gF cF gT cT W2 hd2)
     have huv:(hasB C (un:Int)&&hasB C (vn:Int))=true:=by rw[hu,hv];rfl
     by_cases he:un=vn
     · subst he
       refine⟨[],0,8,fun a cap w h=>?_,fun a cap w h=>?_⟩
       · exact do_no a cap C loops 3 x y un un ub vb ov 8 w hm hp h (fun W gF cF gT cT hd=>moved_no kf3 a cap C loops gF cF gT cT 8 x y un un ub vb ov W (fun W2 hW2=>(hP a cap gF cF gT cT W2 (hd.on hW2)).mono fun e w' hh=>⟨hh.2.2.1 huv (by simp),hh.1⟩))
       · exact doMove_3 a cap C loops x y 0 8 [] un un ub vb ov w hl hm hp h (fun W hW=>(pushOf_no a cap C loops 3 x y un un ub vb ov 8 W hm (h.up hW) (by omega)).mono fun e w' ⟨h1,h2⟩=>h1▸RsAt.no h2)
     · have hne:mkD un ub≠mkD vn vb:=fun e=>he (by have:=congrArg dA e;rw[dA_mk hu1,dA_mk hv1]at this;exact this)
       have hbo:=hb hne
       have hdi:(!decide ((un:Int)=(vn:Int))&&b)=b:=by
        have:decide ((un:Int)=(vn:Int))=false:=decide_eq_false (by omega)
        rw[this]
        rfl
       cases hof:ofB C (mkD un ub) (mkD vn vb) with
       |false=>
        rw[hof]at hbo
        rw[hbo]at hdi
        refine⟨[],0,8,fun a cap w h=>?_,fun a cap w h=>?_⟩
        · exact do_no a cap C loops 3 x y un vn ub vb ov 8 w hm hp h (fun W gF cF gT cT hd=>moved_no kf3 a cap C loops gF cF gT cT 8 x y un vn ub vb ov W (fun W2 hW2=>(hP a cap gF cF gT cT W2 (hd.on hW2)).mono fun e w' hh=>⟨hh.2.2.1 huv (by rw[hbo];exact hdi),hh.1⟩))
        · exact doMove_3 a cap C loops x y 0 8 [] un vn ub vb ov w hl hm hp h (fun W hW=>(pushOf_off a cap C loops 3 x y un vn ub vb ov _ 8 W hm (h.up hW) hu1 hu2 hv1 hv2 he hof (Or.inl ⟨rfl,rfl⟩)).mono fun e w' ⟨h1,h2⟩=>h1▸RsAt.no h2)
       |true=>
        rw[hof]at hbo
        rw[hbo]at hdi
        by_cases hn:C.length+2<=16
        · have hps:=push_same hm un vn ub vb ov hu1 hu2 hv1 hv2
          have hD:(pushR C un ub vn vb ov).length=C.length+2:=by
           unfold pushR
           simp[setL_len]
          refine⟨pushR C un ub vn vb ov,loops,0,fun a cap w h=>?_,fun a cap w h=>?_⟩
          · refine do_yes a cap C loops 3 x y un vn ub vb ov _ _ w hm hp h (fun W gF cF gT cT hd=>moved_yes kf3 a cap C loops gF cF gT cT x y un vn ub vb ov W _ _ (fun W2 hW2=>(hP a cap gF cF gT cT W2 (hd.on hW2)).mono fun e w' hh=>?_))
            obtain⟨a2,c2,h3,h4⟩:=hh.2.2.2.2 huv (by rw[hbo];exact hdi) hn
            rw[hps]at h4
            rw[hD]
            exact⟨a2,c2,h3,h4,hh.1⟩
          · refine doMove_3 a cap C loops x y loops 0 _ un vn ub vb ov w hl hm hp h (fun W hW=>(pushOf_yes a cap C loops 3 x y un vn ub vb ov W hm (h.up hW) hu1 hu2 hv1 hv2 he hof hn).mono fun e w' hh=>?_)
            unfold RsAt
            rw[hD]
            exact hh
        · refine⟨[],0,2,fun a cap w h=>?_,fun a cap w h=>?_⟩
          · exact do_no a cap C loops 3 x y un vn ub vb ov 2 w hm hp h (fun W gF cF gT cT hd=>moved_no kf3 a cap C loops gF cF gT cT 2 x y un vn ub vb ov W (fun W2 hW2=>(hP a cap gF cF gT cT W2 (hd.on hW2)).mono fun e w' hh=>⟨hh.2.2.2.1 huv (by rw[hbo];exact hdi) hn,hh.1⟩))
          · exact doMove_3 a cap C loops x y 0 2 [] un vn ub vb ov w hl hm hp h (fun W hW=>(pushOf_off a cap C loops 3 x y un vn ub vb ov _ 2 W hm (h.up hW) hu1 hu2 hv1 hv2 he hof (Or.inr ⟨rfl,rfl,hn⟩)).mono fun e w' ⟨h1,h2⟩=>h1▸RsAt.no h2)
   · have hv':hasB C va=false:=by simpa using hv
     have huv:(hasB C ua&&hasB C va)=false:=by rw[hu,hv'];rfl
     refine⟨[],0,3,fun a cap w h=>?_,fun a cap w h=>?_⟩
     · exact do_no a cap C loops 3 x y ua va ub vb ov 3 w hm hp h (fun W gF cF gT cT hd=>moved_no kf3 a cap C loops gF cF gT cT 3 x y ua va ub vb ov W (fun W2 hW2=>(push_any a cap C loops gF cF gT cT 3 x y ua va ub vb ov false W2 hm (hd.on hW2) (fun _ e=>absurd e hv)).mono fun e w' hh=>⟨hh.2.1 huv,hh.1⟩))
     · refine doMove_3 a cap C loops x y 0 3 [] ua va ub vb ov w hl hm hp h (fun W hW=>?_)
       by_cases h1:va<1
       · exact(pushOf_no a cap C loops 3 x y ua va ub vb ov 3 W hm (h.up hW) (by omega)).mono fun e w' ⟨h1,h2⟩=>h1▸RsAt.no h2
       · have h2:¬ (1<=va/\va<=2*(C.length:Int)):=fun q=>hv ((hh va).2 q)
         exact(pushOf_no a cap C loops 3 x y ua va ub vb ov 3 W hm (h.up hW) (by omega)).mono fun e w' ⟨h1,h2⟩=>h1▸RsAt.no h2
 · have hu':hasB C ua=false:=by simpa using hu
   have huv:(hasB C ua&&hasB C va)=false:=by rw[hu'];rfl
   refine⟨[],0,3,fun a cap w h=>?_,fun a cap w h=>?_⟩
   · exact do_no a cap C loops 3 x y ua va ub vb ov 3 w hm hp h (fun W gF cF gT cT hd=>moved_no kf3 a cap C loops gF cF gT cT 3 x y ua va ub vb ov W (fun W2 hW2=>(push_any a cap C loops gF cF gT cT 3 x y ua va ub vb ov false W2 hm (hd.on hW2) (fun e _=>absurd e hu)).mono fun e w' hh=>⟨hh.2.1 huv,hh.1⟩))
   · refine doMove_3 a cap C loops x y 0 3 [] ua va ub vb ov w hl hm hp h (fun W hW=>?_)
     by_cases h1:ua<1
     · exact(pushOf_no a cap C loops 3 x y ua va ub vb ov 3 W hm (h.up hW) (by omega)).mono fun e w' ⟨h1,h2⟩=>h1▸RsAt.no h2
     · have h2:¬ (1<=ua/\ua<=2*(C.length:Int)):=fun q=>hu ((hh ua).2 q)
       exact(pushOf_no a cap C loops 3 x y ua va ub vb ov 3 W hm (h.up hW) (by omega)).mono fun e w' ⟨h1,h2⟩=>h1▸RsAt.no h2
theorem slide_tells {C:List Cr} {loops:Int} (hm:mayD C loops=true) {l:List Nat} (hl:l∈facesM C) (h3:l.length=3):slR C l=(triB C l&&(topB C l&&botB C l)):=by
 obtain⟨x,y,z,rfl,hx,hy,hz,e1,e2,e3⟩:=tri_ring hm hl h3
 rw[tri_same hm hx hy hz e1 e2 e3]
 have hq:∀ q,hcN C [x,y,z] q 3=cnt3 q (hgt C (dA x)) (hgt C (dA y)) (hgt C (dA z)):=fun q=>by
  show 0+(if hgt C (dA x)=q then 1 else 0)+(if hgt C (dA y)=q then 1 else 0)+(if hgt C (dA z)=q then 1 else 0)=_
  rw[Nat.zero_add]
  rfl
 unfold slR triB
 rw[hq,hq,hq]
 show _=((!decide (dC C x=dC C y)&&!decide (dC C y=dC C z))&&!decide (dC C z=dC C x)&&_)
 show(((((_&&_)&&_)&&!decide (dC C x=dC C y))&&!decide (dC C x=dC C z))&&!decide (dC C y=dC C z))=_
 have ec:decide (dC C z=dC C x)=decide (dC C x=dC C z):=by
  rw[Bool.eq_iff_iff]
  simp only[decide_eq_true_eq]
  exact eq_comm
 rw[ec]
 generalize decide (cnt3 0 _ _ _=1)=a
 generalize decide (cnt3 1 _ _ _=1)=b
 generalize decide (cnt3 2 _ _ _=1)=c
 generalize decide (dC C x=dC C y)=d
 generalize decide (dC C x=dC C z)=e
 generalize decide (dC C y=dC C z)=f
 cases a<;>cases b<;>cases c<;>cases d<;>cases e<;>cases f<;>rfl
theorem slide_same {C:List Cr} {loops:Int} (hm:mayD C loops=true) {l:List Nat} (hl:l∈facesM C) (h3:l.length=3) (ht:triB C l=true):relN (slFs C l 3) C C.length=slLs C l 3:=by
 obtain⟨x,y,z,rfl,hx,hy,hz,e1,e2,e3⟩:=tri_ring hm hl h3
 have ht':((!decide (dC C x=dC C y)&&!decide (dC C y=dC C z))&&!decide (dC C z=dC C x))=true:=ht
 simp only[Bool.and_eq_true,Bool.not_eq_true',decide_eq_false_iff_not]at ht'
 obtain⟨⟨n1,n2⟩,n3⟩:=ht'
 have dx:=dA_le hx.1 hx.2
 have dy:=dA_le hy.1 hy.2
 have dz:=dA_le hz.1 hz.2
 show relN (slF C (slF C (slF C (fun _=>none) (dA x)) (dA y)) (dA z)) C C.length=slL C (slL C (slL C C (dA x)) (dA y)) (dA z)
 rw[slide_spots hm _ _ dz.1 dz.2 (tri_ne hm hy e2 n2),slide_spots hm _ _ dy.1 dy.2 (tri_ne hm hx e1 n1),slide_spots hm _ _ dx.1 dx.2 (tri_ne hm hz e3 n3),relN_none]
theorem pair_5 {C:List Cr} {loops:Int} (x y ua:Int) (ub:Bool) (va:Int) (vb ov:Bool) (hl:C.length<=maxLen) (hm:mayD C loops=true) (hp:planarB C=true):∃ D lo ce,Pair C loops 5 x y ua ub va vb ov D lo ce:=by
 by_cases hx:0<=x/\x<((facesM C).length:Int)
 · obtain⟨xn,rfl⟩:∃ n:Nat,x=(n:Int):=⟨x.toNat,by omega⟩
   have hxl:xn<(facesM C).length:=by omega
   obtain⟨l,hll⟩:∃ l,(facesM C).getD xn []=l:=⟨_,rfl⟩
   have hin:l∈facesM C:=by
    rw[<-hll,List.getD_eq_getElem?_getD,List.getElem?_eq_getElem hxl]
    exact List.getElem_mem hxl
   by_cases h3:l.length=3
   · have hst:=slide_tells hm hin h3
     cases hs:slR C l with
     |false=>
      rw[hs]at hst
      refine⟨[],0,8,fun a cap w h=>?_,fun a cap w h=>?_⟩
      · refine do_no a cap C loops 5 xn y ua va ub vb ov 8 w hm hp h (fun W gF cF gT cT hd=>moved_no kf5 a cap C loops gF cF gT cT 8 xn y ua va ub vb ov W (fun W2 hW2=>?_))
        cases htr:triB C l with
        |false=>exact slide_no3 a cap C loops gF cF gT cT 5 y ua va xn ub vb ov W2 hm (hd.on hW2) l hxl hll h3 htr
        |true=>
         rw[htr,Bool.true_and]at hst
         exact slide_no4 a cap C loops gF cF gT cT 5 y ua va xn ub vb ov W2 hm (hd.on hW2) l hxl hll h3 htr hst.symm
      · exact doMove_5 a cap C loops xn y 0 8 [] ua va ub vb ov w hl hm hp h (fun W hW=>(slideOf_no3 a cap C loops xn W hm (h.up hW) l hxl hll h3 hs).mono fun e w' ⟨h1,h2⟩=>h1▸RsAt.no h2)
     |true=>
      rw[hs]at hst
      have hb:triB C l=true/\(topB C l&&botB C l)=true:=by
       have:=hst.symm
       rw[Bool.and_eq_true]at this
       exact this
      have hsm:=slide_same hm hin h3 hb.1
      have hD:(slLs C l 3).length=C.length:=slLs_len C l 3
      refine⟨slLs C l 3,loops,0,fun a cap w h=>?_,fun a cap w h=>?_⟩
      · refine do_yes a cap C loops 5 xn y ua va ub vb ov _ _ w hm hp h (fun W gF cF gT cT hd=>moved_yes kf5 a cap C loops gF cF gT cT xn y ua va ub vb ov W _ _ (fun W2 hW2=>?_))
        have h2:=slide_yes a cap C loops gF cF gT cT 5 y ua va xn ub vb ov W2 hm (hd.on hW2) l hxl hll h3 hb.1 hb.2
        rw[hsm]at h2
        rw[hD]
        exact h2
      · refine doMove_5 a cap C loops xn y loops 0 _ ua va ub vb ov w hl hm hp h (fun W hW=>(slideOf_yes a cap C loops xn W hm (h.up hW) l hxl hll h3 hs).mono fun e w' hh=>?_)
        unfold RsAt
        rw[hD]
        exact hh
   · refine⟨[],0,8,fun a cap w h=>?_,fun a cap w h=>?_⟩
     · exact do_no a cap C loops 5 xn y ua va ub vb ov 8 w hm hp h (fun W gF cF gT cT hd=>moved_no kf5 a cap C loops gF cF gT cT 8 xn y ua va ub vb ov W (fun W2 hW2=>slide_no2 a cap C loops gF cF gT cT 5 y ua va xn ub vb ov W2 hm (hd.on hW2) l hxl hll h3))
     · exact doMove_5 a cap C loops xn y 0 8 [] ua va ub vb ov w hl hm hp h (fun W hW=>(slideOf_no2 a cap C loops xn W hm (h.up hW) l hxl hll h3).mono fun e w' ⟨h1,h2⟩=>h1▸RsAt.no h2)
 · refine⟨[],0,3,fun a cap w h=>?_,fun a cap w h=>?_⟩
   · refine do_no a cap C loops 5 x y ua va ub vb ov 3 w hm hp h (fun W gF cF gT cT hd=>moved_no kf5 a cap C loops gF cF gT cT 3 x y ua va ub vb ov W (fun W2 hW2=>?_))
     by_cases h0:x<0
     · exact slide_no1a a cap C loops gF cF gT cT 5 x y ua va ub vb ov W2 hm (hd.on hW2) h0
     · exact slide_no1b a cap C loops gF cF gT cT 5 x y ua va ub vb ov W2 hm (hd.on hW2) (by omega) (by omega)
   · refine doMove_5 a cap C loops x y 0 3 [] ua va ub vb ov w hl hm hp h (fun W hW=>?_)
     by_cases h0:x<0
     · exact(slideOf_no1a a cap C loops x W hm (h.up hW) h0).mono fun e w' ⟨h1,h2⟩=>h1▸RsAt.no h2
     · exact(slideOf_no1b a cap C loops x W hm (h.up hW) (by omega) (by omega)).mono fun e w' ⟨h1,h2⟩=>h1▸RsAt.no h2
theorem pair_all (C:List Cr) (loops:Int) (m:Mo):∃ D lo ce,(∀ (a:Option Addr) (cap:Nat) (w:World),Crs w w.heap.size (.slice a C.length cap) C->Ways a cap C loops m D lo ce w)/\
    (C.length<=maxLen->∀ (a:Option Addr) (cap:Nat) (w:World),CrsW w w.heap.size (.slice a C.length cap) C->Calls Try.prog 11 #[.agg #[.slice a C.length cap,.int .i64 loops],m.val] w fun e w'=>RsAt w D lo ce e w'):=by
 obtain⟨k,x,y,ua,ub,va,vb,ov⟩:=m
 cases hm:mayD C loops with
 |false=>exact⟨[],0,7,fun _ _ _ h=>Or.inl ⟨rfl,rfl,rfl,fun W hW=>laid_no _ C loops W hm (h.up hW)⟩,fun hl a cap w h=>doMove_may a cap C loops k x y ua va ub vb ov w hl hm h⟩
 |true=>
  have hl:C.length<=maxLen:=by have:=may_len hm;unfold maxLen;omega
  have key:∃ D lo ce,Pair C loops k x y ua ub va vb ov D lo ce:=by
   cases hp:planarB C with
   |false=>exact⟨_,_,_,pair_plane k x y ua ub va vb ov hl hm hp⟩
   |true=>
    by_cases h1:k=1
    · subst h1;exact pair_1 x y ua ub va vb ov hl hm hp
    · by_cases h2:k=2
      · subst h2;exact pair_2 x y ua ub va vb ov hl hm hp
      · by_cases h3:k=3
        · subst h3;exact pair_3 x y ua ub va vb ov hl hm hp
        · by_cases h4:k=4
          · subst h4;exact pair_4 x y ua ub va vb ov hl hm hp
          · by_cases h5:k=5
            · subst h5;exact pair_5 x y ua ub va vb ov hl hm hp
            · exact⟨_,_,_,pair_kind k x y ua ub va vb ov hl hm hp h1 h2 h3 h4 h5⟩
  obtain⟨D,lo,ce,h1,h2⟩:=key
  exact⟨D,lo,ce,h1,fun _=>h2⟩
end Go.Proofs.Ytagaajlbkfkaiaa
/- Rows of moves: the road that a diagram goes along a row of moves, and both ways to go it side by side. -/
namespace Go.Proofs.Ytagaajlbkfkaiaa
open Go.RowKit
def Stp (s:List Cr×Int) (m:Mo) (t:List Cr×Int×Int):Prop:=
 (∀ (a:Option Addr) (cap:Nat) (w:World),Crs w w.heap.size (.slice a s.1.length cap) s.1->Ways a cap s.1 s.2 m t.1 t.2.1 t.2.2 w)/\
  (s.1.length<=maxLen->∀ (a:Option Addr) (cap:Nat) (w:World),CrsW w w.heap.size (.slice a s.1.length cap) s.1->Calls Try.prog 11 #[.agg #[.slice a s.1.length cap,.int .i64 s.2],m.val] w fun e w'=>RsAt w t.1 t.2.1 t.2.2 e w')
theorem stp_any (s:List Cr×Int) (m:Mo):∃ t,Stp s m t:=by
 obtain⟨D,lo,ce,h1,h2⟩:=pair_all s.1 s.2 m
 exact⟨(D,lo,ce),h1,h2⟩
theorem road_any (C:List Cr) (loops:Int) (ms:Nat->Mo):∃ (D:Nat->List Cr) (lo ce:Nat->Int),D 0=C/\lo 0=loops/\∀ i,Stp (D i,lo i) (ms i) (D (i+1),lo (i+1),ce i):=by
 refine⟨fun i=>(Nat.rec (C,loops,0) (fun j (s:List Cr×Int×Int)=>Classical.choose (stp_any (s.1,s.2.1) (ms j))) i:List Cr×Int×Int).1,fun i=>(Nat.rec (C,loops,0) (fun j (s:List Cr×Int×Int)=>Classical.choose (stp_any (s.1,s.2.1) (ms j))) i:List Cr×Int×Int).2.1,fun i=>(Nat.rec (C,loops,0) (fun j (s:List Cr×Int×Int)=>Classical.choose (stp_any (s.1,s.2.1) (ms j))) (i+1):List Cr×Int×Int).2.2,rfl,rfl,fun i=>?_⟩
 exact Classical.choose_spec (stp_any _ (ms i))
theorem first_stop (ce:Nat->Int):∀ L:Nat,∃ n,n<=L/\(∀ i,i<n->ce i=0)/\(n<L->ce n≠0)
 |0=>⟨0,Nat.le_refl _,fun i hi=>absurd hi (Nat.not_lt_zero _),fun h=>absurd h (Nat.lt_irrefl _)⟩
 |L+1=>by
  obtain⟨n,h1,h2,h3⟩:=first_stop ce L
  by_cases hn:n<L
  · exact⟨n,by omega,h2,fun _=>h3 hn⟩
  · have e:n=L:=by omega
    subst e
    by_cases hz:ce n=0
    · refine⟨n+1,Nat.le_refl _,fun i hi=>?_,fun h=>absurd h (Nat.lt_irrefl _)⟩
      rcases Nat.lt_or_ge i n with q|q
      · exact h2 i q
      · have:i=n:=by omega
        rw[this];exact hz
    · exact⟨n,by omega,h2,fun _=>hz⟩
def RrAt (w:World) (D:List Cr) (lo n ce:Int) (e:Ending) (w':World):Prop:=∃ a2 c2,e=.returned (.tuple #[.agg #[.slice a2 D.length c2,.int .i64 lo],.int .i64 n,.int .i64 ce])/\Crs w' w'.heap.size (.slice a2 D.length c2) D/\Below w.heap.size w w'
theorem RrAt.no {w w':World} {ce:Int} (hb:Below w.heap.size w w'):RrAt w [] 0 0 ce (.returned (.tuple #[.agg #[.slice none 0 0,.int .i64 0],.int .i64 0,.int .i64 ce])) w':=⟨none,0,rfl,⟨none,0,rfl,by simp,fun h=>by simp at h⟩,hb⟩
theorem rows_any (C:List Cr) (loops:Int) (ms:List Mo) (hl:C.length<=maxLen):∃ D lo n ce,
    (∀ a cap ma mc w,Crs w w.heap.size (.slice a C.length cap) C->Mvs w w.heap.size (.slice ma ms.length mc) ms->Calls Try.prog 13 #[.agg #[.slice a C.length cap,.int .i64 loops],.slice ma ms.length mc] w fun e w'=>RrAt w D lo n ce e w')/\
    (∀ a cap ma mc w,CrsW w w.heap.size (.slice a C.length cap) C->Mvs w w.heap.size (.slice ma ms.length mc) ms->Calls Try.prog 14 #[.agg #[.slice a C.length cap,.int .i64 loops],.slice ma ms.length mc] w fun e w'=>RrAt w D lo n ce e w'):=by
 cases hm:mayD C loops with
 |false=>
  refine⟨[],0,0,7,fun a cap ma mc w h _=>?_,fun a cap ma mc w h _=>?_⟩
  · exact(mvRow_state a C.length cap loops _ w (fun W hW=>laid_no _ C loops W hm (h.up hW))).mono fun e w' ⟨h1,h2⟩=>h1▸RrAt.no h2
  · exact(rowOf_may a cap C loops _ w hl hm h).mono fun e w' ⟨h1,h2⟩=>h1▸RrAt.no h2
 |true=>
  cases hp:planarB C with
  |false=>
   refine⟨[],0,0,7,fun a cap ma mc w h _=>?_,fun a cap ma mc w h _=>?_⟩
   · exact(mvRow_state a C.length cap loops _ w (fun W hW=>laid_bad faceRingsM _ C loops W hm hp (h.up hW))).mono fun e w' ⟨h1,h2⟩=>h1▸RrAt.no h2
   · exact(rowOf_plane a cap C loops _ w hl hm hp h).mono fun e w' ⟨h1,h2⟩=>h1▸RrAt.no h2
  |true=>
   by_cases hL:200<ms.length
   · refine⟨[],0,0,2,fun a cap ma mc w h _=>?_,fun a cap ma mc w h _=>?_⟩
     · exact(mvRow_size a cap C loops ma ms.length mc w hL (laid_all a cap C loops w hm hp h)).mono fun e w' ⟨h1,h2⟩=>h1▸RrAt.no h2
     · exact(rowOf_size a cap C loops ma ms.length mc w hL hl hm hp h).mono fun e w' ⟨h1,h2⟩=>h1▸RrAt.no h2
   · obtain⟨D,lo,ce,h0,h1,hS⟩:=road_any C loops (fun i=>ms.getD i Mo.none)
     obtain⟨n,hn,hok,hst⟩:=first_stop ce ms.length
     refine⟨D n,lo n,n,if n<ms.length then ce n else 0,fun a cap ma mc w h hM=>?_,fun a cap ma mc w h hM=>?_⟩
     · exact mvRow_go a cap C loops ma mc ms w D lo ce n h0 h1 (by have:=may_len hm;omega) (by omega) hn hok hst h hM (laid_all a cap C loops w hm hp h) (fun i _ _ a cap W hW=>(hS i).1 a cap W hW)
     · exact rowOf_go a cap C loops ma mc ms w D lo ce n h0 h1 (by omega) hn hok hst hl hm hp h hM (fun i _ _ hf a cap W hW=>(hS i).2 hf a cap W hW)
end Go.Proofs.Ytagaajlbkfkaiaa
/- The law MovesRows: its walk. -/
namespace Go.Proofs.Ytagaajlbkfkaiaa
open Go.RowKit
set_option maxHeartbeats 16000000
set_option maxRecDepth 100000
theorem slq_crs {w : World} {B : Nat} {v : Value} {C : List Cr} (h : CrsW w B v C) : ∃ a c, v = .slice a C.length c := by
 rcases h with ⟨rfl, rfl⟩ | ⟨ad, cap, rfl, rfl⟩ | ⟨b, off, cap, rfl, -, -⟩
 · exact ⟨_, _, rfl⟩
 · exact ⟨_, _, rfl⟩
 · exact ⟨_, _, rfl⟩
theorem movesRows_any (v mv : Value) (C : List Cr) (loops : Int) (ms : List Mo) (w : World) (hl : C.length * 40 ≤ 140737488355328) (h : CrsW w w.heap.size v C) (hml : ms.length * 64 ≤ 140737488355328) (hM : InAt w w.heap.size 8 mv ms.length (moCells ms)) :
    Calls Try.prog 4 #[.agg #[v, .int .i64 loops], mv] w fun e w' => e = .returned (.bool true) ∧ Below w.heap.size w w' := by
 obtain ⟨a, cap, rfl⟩ := slq_crs h
 obtain ⟨ma, mc, rfl⟩ := hM.sliceQ
 obtain ⟨D, lo, n, ce, hp1, hp2⟩ := rows_any C loops ms (by unfold maxLen; omega)
 obtain ⟨i0, hi, hz0, hz1, hz2⟩ := info_parts infoMove
 have HP1 := hidQ hp1
 have HP2 := hidQ hp2
 have HL := hidQ hl
 have HM := hidQ hM
 obtain ⟨L, hL⟩ : ∃ L, ms.length = L := ⟨_, rfl⟩
 have HLL := hidQ hL
 have HCL := hidQ (show (moCells ms).length = L * 8 by rw [moCells_len, hL])
 rw [hL] at HM HP1 HP2 hml
 rw [hL]
 obtain ⟨V, hV⟩ : ∃ V, w.alloc (.cells #[.slice a C.length cap, .int .i64 loops] 24) = V := ⟨_, rfl⟩
 have hB : Below w.heap.size w V := by rw [← hV]; exact (Below.refl _ _).alloc (Nat.le_refl _) _
 have hk : V.heap[w.heap.size]? = some (.cells #[.slice a C.length cap, .int .i64 loops] 24 (0, 0)) := by rw [← hV]; exact alloc_at rfl
 have hs : V.heap.size = w.heap.size + 1 := by rw [← hV]; simp
 have HV := hidQ hV
 have HB := hidQ hB
 have HK := hidQ hk
 have HCW : Hid (∀ W, Below V.heap.size V W → CrsW W W.heap.size (.slice a C.length cap) C) := fun W hW => (h.up HB.out).up hW
 have HMW : Hid (∀ W, Below V.heap.size V W → InAt W W.heap.size 8 (.slice ma L mc) L (moCells ms)) := fun W hW => (HM.out.up HB.out).up hW
 have c0 : V.cell? ⟨w.heap.size, 0, none⟩ = some (.slice a C.length cap) := block_cell hk rfl
 have c1 : V.cell? ⟨w.heap.size, 1, none⟩ = some (.int .i64 loops) := block_cell hk rfl
 have l0 : w.heap.size < V.heap.size := by omega
 clear hV hp1 hp2 h hl hM hL hB hk
 go_enter Try.func4, Try.ntmps4
 go_upto_region 1 with (fail)
 rw [HV.out]
 go_upto_region 2 with (first
  | (go_at_call 10; refine (diagramOf_any _ C loops _ HL.out (HCW.out _ (Below.refl _ _))).mono ?_; rintro e9 w1 ⟨v1, rfl, hc1, hb1⟩
     obtain ⟨a1, cp1, rfl, hcl1, hcx1⟩ := hc1
     have HC1 : Hid (Crs w1 w1.heap.size (.slice a1 C.length cp1) C) := ⟨a1, cp1, rfl, hcl1, hcx1⟩
     have HB1 := hidQ hb1
     have hs1 := hb1.size
     clear hb1 hcl1 hcx1 c0 c1)
  | (at_builtin; refine wpList_append_copy rfl _ _ 35 rfl w1.heap.size 28 i0 (.agg #[.int .i64 0, .int .i64 0, .int .i64 0, .int .i64 0, .bool false, .int .i64 0, .bool false, .bool false]) 8 64 Try.underlying35 hi hz0 hz1 hz2 rfl (by decide) rfl _ w1.heap.size L (moCells ms) rfl (HMW.out _ HB1.out) HCL.out (moCells_one ms) (by unfold maxLen; omega) hml (Nat.le_refl _) ?_; intro v8 w8 hown8 hg8; obtain ⟨a8, c8, e8⟩ := own_capS hown8; subst e8
     have H18 := hidQ ((Below.refl w1.heap.size w1).grown hg8 (Nat.le_refl _) (fun k hk => by cases hk))
     have HM8 : Hid (Mvs w8 w8.heap.size (.slice a8 L c8) ms) := (by
      have h8 := own_in hown8
      rw [← HLL.out] at h8 ⊢
      exact h8.mvs (by rw [HLL.out]; unfold maxLen; omega))
     clear hown8 hg8)
  | (go_at_call 13; refine (HP1.out a1 cp1 a8 c8 _ (HC1.out.up H18.out) HM8.out).mono ?_; rintro e9 w9 ⟨a9, c9, rfl, hc9, hb9⟩
     have HC9 := hidQ hc9
     have HB9 := hidQ (HB1.out.trans ((H18.out.trans (hb9.mono H18.out.size)).mono HB1.out.size))
     clear hc9 hb9))
 obtain ⟨Y, hY⟩ : ∃ Y, w9.alloc (.cells #[.slice a9 D.length c9, .int .i64 lo] 24) = Y := ⟨_, rfl⟩
 have hBY : Below w9.heap.size w9 Y := by rw [← hY]; exact (Below.refl _ _).alloc (Nat.le_refl _) _
 have hKY : Y.heap[w9.heap.size]? = some (.cells #[.slice a9 D.length c9, .int .i64 lo] 24 (0, 0)) := by rw [← hY]; exact alloc_at rfl
 have lY : w9.heap.size < Y.heap.size := by rw [← hY]; simp
 have HKY := hidQ hKY
 have HCY := hidQ (HC9.out.up hBY)
 have HVY := hidQ (HB9.out.trans (hBY.mono HB9.out.size))
 have kv := (HVY.out.block _ l0).trans HK.out
 have p0 : Y.cell? ⟨w.heap.size, 0, none⟩ = some (.slice a C.length cap) := block_cell kv rfl
 have p1 : Y.cell? ⟨w.heap.size, 1, none⟩ = some (.int .i64 loops) := block_cell kv rfl
 have lx : w.heap.size < Y.heap.size := Nat.lt_of_lt_of_le l0 HVY.out.size
 rw [hY]
 clear hY hBY hKY kv
 go_upto_region 3 with (first
  | (go_at_call 14; refine (HP2.out a cap ma mc _ (HCW.out _ HVY.out) (by have h8 := HMW.out _ HVY.out; rw [← HLL.out] at h8 ⊢; exact h8.mvs (by rw [HLL.out]; unfold maxLen; omega))).mono ?_; rintro e9 w5 ⟨a5, c5, rfl, hc5, hb5⟩
     have HC5 := hidQ hc5
     have HB5 := hidQ hb5
     have hs5 := hb5.size
     clear hc5 hb5 p0 p1 lx))
 obtain ⟨X, hX⟩ : ∃ X, w5.alloc (.cells #[.slice a5 D.length c5, .int .i64 lo] 24) = X := ⟨_, rfl⟩
 have hBX : Below w5.heap.size w5 X := by rw [← hX]; exact (Below.refl _ _).alloc (Nat.le_refl _) _
 have hKX : X.heap[w5.heap.size]? = some (.cells #[.slice a5 D.length c5, .int .i64 lo] 24 (0, 0)) := by rw [← hX]; exact alloc_at rfl
 have lX : w5.heap.size < X.heap.size := by rw [← hX]; simp
 have HYX := hidQ (HB5.out.trans (hBX.mono hs5))
 have HC1' := hidQ (HCY.out.up HYX.out)
 have HC2' := hidQ (HC5.out.up hBX)
 have q5 := (HYX.out.block _ lY).trans HKY.out
 have s0 : X.cell? ⟨w9.heap.size, 0, none⟩ = some (.slice a9 D.length c9) := block_cell q5 rfl
 have s1 : X.cell? ⟨w9.heap.size, 1, none⟩ = some (.int .i64 lo) := block_cell q5 rfl
 have t0 : X.cell? ⟨w5.heap.size, 0, none⟩ = some (.slice a5 D.length c5) := block_cell hKX rfl
 have t1 : X.cell? ⟨w5.heap.size, 1, none⟩ = some (.int .i64 lo) := block_cell hKX rfl
 have lgX : w9.heap.size < X.heap.size := Nat.lt_of_lt_of_le lY HYX.out.size
 have hce : (ce == ce) = true := beq_self_eq_true ce
 have hne : (n == n) = true := beq_self_eq_true n
 rw [hX]
 clear q5 hX hKX hBX
 go_wp2_with (go_at_call 12; refine (sameDiagram_eq _ _ D lo _ HC1'.out HC2'.out).mono ?_; rintro e9 w7 ⟨rfl, hb7⟩)
 go_ret
 exact ⟨by first | rfl | simp, HB.out.trans ((HVY.out.trans ((HYX.out.trans (hb7.mono HYX.out.size)).mono HVY.out.size)).mono (by omega))⟩
end Go.Proofs.Ytagaajlbkfkaiaa
