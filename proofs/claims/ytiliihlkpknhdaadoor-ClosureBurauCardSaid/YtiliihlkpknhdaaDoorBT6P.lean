/- Several texts of the proof, one behind the other. -/
import Derived.Test.YtiliihlkpknhdaaDoorTkh
import Derived.Test.YtiliihlkpknhdaaDoorBT3P
import Derived.Test.YtiliihlkpknhdaaDoorAS2P
import Derived.Test.YtiliihlkpknhdaaDoorO0P
import Derived.Deep.Cut
import Derived.Deep.RegionHeldLaw
/- Burau's tables: the walk of closure.table.multiply. -/
namespace Go.Proofs.YtiliihlkpknhdaaDoor.Poly
open Go.RowKit Go.Maps
set_option maxHeartbeats 16000000
set_option maxRecDepth 100000
def qA (x:Int):List (Int×Int):=if 0<x then [(0,1),(1,-1)] else []
def qB (x:Int):List (Int×Int):=if 0<x then [(1,1)] else [(0,1)]
def qC (x:Int):List (Int×Int):=if 0<x then [(0,1)] else [(-1,1)]
def qD (x:Int):List (Int×Int):=if 0<x then [] else [(-1,-1),(0,1)]
def Two (q:List (Int×Int)):Prop:=q.length<=2/\∀ t∈q,t.2=1∨t.2 = -1
theorem two_q (x:Int):Two (qA x)/\Two (qB x)/\Two (qC x)/\Two (qD x):=by
 unfold qA qB qC qD Two
 by_cases h:0<x
 · simp[h]
 · simp[h]
theorem prodL_two {q:List (Int×Int)} (h:Two q) {f:Int->Int} {H:Nat} (hf:∀ y,-(H:Int)<=f y/\f y<=H) (y:Int) : -(2*(H:Int))<=prodL q f y/\prodL q f y<=2*(H:Int):=by
 obtain⟨h1,h2⟩:=h
 match q,h1,h2 with
 |[],_,_=>simp only[prodL];omega
 |[t],_,h2=>
  have a:=h2 t (by simp)
  have b:=hf (y-t.1)
  simp only[prodL]
  rcases a with e|e<;>rw[e]<;>omega
 |[t,u],_,h2=>
  have a:=h2 t (by simp)
  have b:=hf (y-t.1)
  have c:=h2 u (by simp)
  have d:=hf (y-u.1)
  simp only[prodL]
  rcases a with e|e<;>rcases c with e'|e'<;>rw[e,e']<;>omega
theorem coefL_two {q:List (Int×Int)} (h:Two q) (y:Int) : -100<=coefL q y/\coefL q y<=100:=by
 obtain⟨h1,h2⟩:=h
 match q,h1,h2 with
 |[],_,_=>simp only[coefL];omega
 |[t],_,h2=>
  have a:=h2 t (by simp)
  simp only[coefL]
  split<;>omega
 |[t,u],_,h2=>
  have a:=h2 t (by simp)
  have c:=h2 u (by simp)
  simp only[coefL]
  split<;>split<;>omega
theorem q_L (x:Int) (L R:Int->Int) (y:Int):prodL (qA x) L y+prodL (qC x) R y=buL x L R y:=by
 unfold qA qC
 by_cases h:0<x
 · rw[if_pos h,if_pos h];exact pos_L x h L R y
 · rw[if_neg h,if_neg h];exact neg_L x h L R y
theorem q_R (x:Int) (L R:Int->Int) (y:Int):prodL (qB x) L y+prodL (qD x) R y=buR x L R y:=by
 unfold qB qD
 by_cases h:0<x
 · rw[if_pos h,if_pos h];exact pos_R x h L R y
 · rw[if_neg h,if_neg h];exact neg_R x h L R y
def uv (V:Nat->Nat->Value) (r j:Nat) (u:Value):Nat->Nat->Value:=fun a b=>if a=r/\b=j then u else V a b
def ug (G:Nat->Nat->Int->Int) (r j:Nat) (f:Int->Int):Nat->Nat->Int->Int:=fun a b=>if a=r/\b=j then f else G a b
structure StM (B:Nat) (w0:World) (g n N K:Nat) (gs:Nat->Nat) (r:Nat) (V:Nat->Nat->Value) (F G:Nat->Nat->Int->Int) (gb a b c d:Nat) (x:Int) (W:World):Prop where
 tb:Bu B g n (4*N) (K+1) gs n V G W
 rest:∀ i j,r<=i->i<n->j<n->WkV W W.heap.size (V i j) N K (F i j)
 bl:BlV W W.heap.size a b c d x
 box:W.heap[gb]?=some (.cells #[.map (some a),.map (some b),.map (some c),.map (some d)] 75 (0,0))
 bel:Below B w0 W
 nb:∀ i,i<n->gs i≠gb
section
variable {B:Nat} {w0:World} {g n N K:Nat} {gs:Nat->Nat} {r:Nat} {V:Nat->Nat->Value} {F G:Nat->Nat->Int->Int} {gb a b c d:Nat} {x:Int} {W W':World}
theorem BlV.up {B':Nat} (h:BlV W B' a b c d x) (hb:Below B' W W') (hB:B'<=W'.heap.size):BlV W' W'.heap.size a b c d x:=⟨(h.a.on hb).mono hB,(h.b.on hb).mono hB,(h.c.on hb).mono hB,(h.d.on hb).mono hB⟩
theorem StM.any (h:StM B w0 g n N K gs r V F G gb a b c d x W) (hb:Below W.heap.size W W'):StM B w0 g n N K gs r V F G gb a b c d x W':=
 ⟨h.tb.any hb,fun i j h1 h2 h3=>((h.rest i j h1 h2 h3).on hb).mono hb.size (Nat.le_refl _) (Nat.le_refl _),h.bl.up hb hb.size,(hb.block _ (Array.getElem?_eq_some_iff.1 h.box).1).trans h.box,h.bel.trans (hb.mono (by have:=h.tb.lt.1;omega)),h.nb⟩
theorem StM.put {q j z : Nat} {f : Int → Int} (h : StM B w0 g n N K gs r V F G gb a b c d x W) (hq : q < n) (hr : r ≤ q + 1) (hz : WkV W W.heap.size (.map (some z)) (4 * N) (K + 1) f) :
    StM B w0 g n N K gs (q+1) (uv V q j (.map (some z))) F (ug G q j f) gb a b c d x (W.setCell ⟨gs q,j,none⟩ (.map (some z)))/\W.grownBy (W.setCell ⟨gs q,j,none⟩ (.map (some z))) (some (gs q)):=by
 obtain⟨h1,h2⟩:=h.tb.set (V':=uv V q j (.map (some z))) (F':=ug G q j f) q j (.map (some z)) hq (fun a b _ _=>rfl) (fun a b _ _ hne=>if_neg hne) (fun _=>by unfold ug;rw[if_pos ⟨rfl,rfl⟩];exact hz)
 obtain⟨cs,hcs⟩:=row_cells (h.tb.rows q hq)
 have hlt:=(h.tb.lt.2 q hq).1
 refine⟨⟨h1,fun i j' hi1 hi2 hj=>?_,⟨(h.bl.a.set h2 hcs).mono h2.size,(h.bl.b.set h2 hcs).mono h2.size,(h.bl.c.set h2 hcs).mono h2.size,(h.bl.d.set h2 hcs).mono h2.size⟩,(h2.block _ (Array.getElem?_eq_some_iff.1 h.box).1 (fun e=>h.nb q hq (Option.some.inj e).symm)).trans h.box,h.bel.grown h2 (by have:=h.tb.lt.1;omega) (fun k hk=>by have:=Option.some.inj hk;omega),h.nb⟩,h2⟩
 have e:uv V q j (.map (some z)) i j'=V i j':=if_neg (fun e=>by omega)
 rw[e]
 exact((h.rest i j' (by omega) hi2 hj).set h2 hcs).mono h2.size (Nat.le_refl _) (Nat.le_refl _)
end
theorem bu_row (x:Int) (F G:Nat->Nat->Int->Int) (r i j:Nat) (hx:x.natAbs=i) (hij:i=j+1) (hG:∀ a c,G a c=if a<r then buS x (F a) c else F a c) (a c:Nat):(if a<r+1 then buS x (F a) c else F a c)=ug (ug G r j (buL x (F r j) (F r i))) r i (buR x (F r j) (F r i)) a c:=by
 unfold ug
 by_cases e:a=r
 · subst e
   rw[if_pos (Nat.lt_succ_self a)]
   by_cases e1:c=i
   · have h1:(if a=a/\c=i then buR x (F a j) (F a i) else if a=a/\c=j then buL x (F a j) (F a i) else G a c)=buR x (F a j) (F a i):=if_pos ⟨rfl,e1⟩
     rw[h1]
     unfold buS
     rw[hx,if_neg (by omega),if_pos e1,show i-1=j by omega]
   · by_cases e2:c=j
     · have h1:(if a=a/\c=i then buR x (F a j) (F a i) else if a=a/\c=j then buL x (F a j) (F a i) else G a c)=buL x (F a j) (F a i):=by rw[if_neg (fun q=>e1 q.2),if_pos ⟨rfl,e2⟩]
       rw[h1]
       unfold buS
       rw[hx,if_pos (by omega),show i-1=j by omega]
     · have h1:(if a=a/\c=i then buR x (F a j) (F a i) else if a=a/\c=j then buL x (F a j) (F a i) else G a c)=F a c:=by rw[if_neg (fun q=>e1 q.2),if_neg (fun q=>e2 q.2),hG,if_neg (Nat.lt_irrefl _)]
       rw[h1]
       unfold buS
       rw[hx,if_neg (by omega),if_neg e1]
 · have h1:(if a=r/\c=i then buR x (F r j) (F r i) else if a=r/\c=j then buL x (F r j) (F r i) else G a c)=G a c:=by rw[if_neg (fun q=>e q.1),if_neg (fun q=>e q.1)]
   rw[h1,hG]
   by_cases e1:a<r
   · rw[if_pos e1,if_pos (by omega)]
   · rw[if_neg e1,if_neg (by omega)]
theorem map_far {W W':World} {z n:Nat} {P:DataW Unit->Prop} (h:∃ D:DataW Unit,W.ownsMap Tryd.prog 3 (plainElem Tryd.prog 3) z n D/\P D) (hb:Below W.heap.size W W'):∃ D:DataW Unit,W'.ownsMap Tryd.prog 3 (plainElem Tryd.prog 3) z n D/\P D:=by
 obtain⟨D,h1,h2⟩:=h
 exact⟨D,map_on h1 hb h1.lt,h2⟩
theorem multiply_any (B : Nat) (w0 : World) (g n N K H i j : Nat) (gs : Nat → Nat) (V : Nat → Nat → Value) (F : Nat → Nat → Int → Int) (x : Int) (w : World) (hn : n ≤ 6) (hi : i < n) (hij : i = j + 1) (hx : x.natAbs = i) (hN : N ≤ 100000000000000) (hK : K ≤ 800) (hH : H ≤ 1200000000) (hF : ∀ a b, a < n → b < n → ∀ y, -(H : Int) ≤ F a b y ∧ F a b y ≤ H)
    (hT:Bu B g n N K gs n V F w) (hB:Below B w0 w):
    Calls Tryd.prog 16 #[.slice (some ⟨g,0,none⟩) n n,.int .i64 x] w fun e w'=>e=.returned (.tuple #[])/\(∃ V',Bu B g n (4*N) (K+1) gs n V' (fun a=>buS x (F a)) w')/\Below B w0 w':=by
 have HSZ:Hid (∀ W,Calls Tryd.prog 37 #[.int .i64 x] W fun e w'=>e=.returned (.int .i64 (i:Int))/\w'=W):=fun W=>by have h:=clSize_any x W (by omega) (by omega);rw[hx]at h;exact h
 have HX:Hid (x.natAbs=i):=hx
 have HIJ:Hid (i=j+1):=hij
 have HF:Hid (∀ a b,a<n->b<n->∀ y,-(H:Int)<=F a b y/\F a b y<=H):=hF
 have HT:=hid_mkP hT
 have HB:=hid_mkP hB
 have hji:(i:Int)-1=(j:Int):=by omega
 have hjn:j<n:=by omega
 have hjI:(j:Int)<(n:Int):=by omega
 have hiI:(i:Int)<(n:Int):=by omega
 have HTM:Hid (∀ (v:Value) (m:Nat) (q:List (Int×Int)) (r k:Nat) (W:World),r<n->k<n->Two q->WkV W W.heap.size v N K (F r k)->LiV W W.heap.size m q->Calls Tryd.prog 22 #[v,.map (some m)] W fun e w'=>∃ z:Nat,e=.returned (.map (some z))/\(∃ D:DataW Unit,w'.ownsMap Tryd.prog 3 (plainElem Tryd.prog 3) z (2*N) D/\KeysIn D (((K+1:Nat)):Int)/\∀ y,coefOf D y=prodL q (F r k) y)/\Below W.heap.size W w'):=fun v m q r k W hr hk hq h1 h2=>(times_wk v m N K H q (F r k) W (by omega) (by omega) (by omega) (hF r k hr hk) (coefL_two hq) h1 h2).mono fun e w' ⟨D,e1,e2,e3,e4,e5⟩=>⟨_,e1,⟨D,e2,by rw[show(((K+1:Nat)):Int)=(K:Int)+1 by omega];exact e3,e4⟩,e5⟩
 have HPL:Hid (∀ (z1 z2:Nat) (q1 q2:List (Int×Int)) (r:Nat) (f:Int->Int) (W:World),r<n->Two q1->Two q2->(∀ y,prodL q1 (F r j) y+prodL q2 (F r i) y=f y)->(∃ D:DataW Unit,W.ownsMap Tryd.prog 3 (plainElem Tryd.prog 3) z1 (2*N) D/\KeysIn D (((K+1:Nat)):Int)/\∀ y,coefOf D y=prodL q1 (F r j) y)->(∃ D:DataW Unit,W.ownsMap Tryd.prog 3 (plainElem Tryd.prog 3) z2 (2*N) D/\KeysIn D (((K+1:Nat)):Int)/\∀ y,coefOf D y=prodL q2 (F r i) y)->Calls Tryd.prog 39 #[.map (some z1),.map (some z2)] W fun e w'=>∃ z:Nat,e=.returned (.map (some z))/\WkV w' w'.heap.size (.map (some z)) (4*N) (K+1) f/\Below W.heap.size W w'):=fun z1 z2 q1 q2 r f W hr hq1 hq2 hf ⟨D1,a1,a2,a3⟩ ⟨D2,b1,b2,b3⟩=>by
  refine(plusB z1 (2*N) z2 (2*N) (K+1) D1 D2 W a1 b1 (by omega) (by omega) (by omega) a2 b2 (fun y=>?_) (fun y=>?_)).mono fun e w' ⟨D,e1,e2,e3,e4,e5⟩=>⟨_,e1,Or.inr ⟨_,D,rfl,e2.lt,e2.mono (by omega),e4,fun y=>by rw[e3,a3,b3,hf]⟩,e5⟩
  · rw[a3];have:=prodL_two hq1 (hF r j hr (by omega)) y;omega
  · rw[b3];have:=prodL_two hq2 (hF r i hr (by omega)) y;omega
 clear hT hB hF hx hij
 go_enter Tryd.func16,Tryd.ntmps16
 go_upto_region 1 with (first
  |(go_at_call 38;refine(block_any x _).mono ?_;rintro e9 w2 ⟨ba,bb,bc,bd,rfl,hbl,hb2⟩)
  |(go_at_call 37;refine(HSZ.out _).mono ?_;rintro e9 w5 ⟨rfl,e5⟩;obtain rfl:=e5.symm))
 obtain⟨Y,hY⟩:∃ Y,Y=w2.alloc (.cells #[.map (some ba),.map (some bb),.map (some bc),.map (some bd)] 75):=⟨_,rfl⟩
 rw[<-hY]
 obtain⟨gb,hgb⟩:∃ gb,w2.heap.size=gb:=⟨_,rfl⟩
 have hbY:Below w2.heap.size w2 Y:=by rw[hY];exact(Below.refl _ _).alloc (Nat.le_refl _) _
 have hbwY:Below w.heap.size w Y:=hb2.trans (hbY.mono hb2.size)
 have HS0:Hid (StM B w0 g n N K gs 0 V F (fun a c=>if a<0 then buS x (F a) c else F a c) gb ba bb bc bd x Y):=⟨((HT.out.any hbwY).mono (by omega) (by omega)).congr (fun _ _ _ _=>rfl) (fun a c _ _=>if_neg (Nat.not_lt_zero _)) (fun _ _=>rfl),fun a c _ ha hc=>(HT.out.any hbwY).vals a c ha hc,hbl.up hbY hbY.size,by rw[hY,<-hgb];exact Array.getElem?_push_size,HB.out.trans (hbwY.mono (by have:=HT.out.lt.1;omega)),fun a ha e=>by have:=(HT.out.lt.2 a ha).2;have:=hb2.size;omega⟩
 rw[hgb]
 clear hY hgb hbY hbwY hbl hb2 HT HB
 go_wp2
 go_loopw [19] (fun v19 wr=>∃ (r:Nat) (U:Nat->Nat->Value),r<=n/\v19=.int .i64 (r:Nat)/\Hid (StM B w0 g n N K gs r U F (fun a c=>if a<r then buS x (F a) c else F a c) gb ba bb bc bd x wr)) (fun v19 _=>n-(intOf v19).toNat)
 case atStart=>exact⟨0,V,Nat.zero_le _,rfl,HS0.out⟩
 case round=>
  clear HS0
  rename World=>W1
  obtain⟨r,U,hrn,rfl,hS⟩:=hrel
  by_cases hrl:r<n
  · have hrI:(r:Int)<(n:Int):=by omega
    have o0:=hS.out.tb.cellO r hrl hrl
    have l0:=hS.out.tb.lt.1.2
    have c0:=hS.out.tb.cellR r j hrl hjn
    have c1:=hS.out.tb.cellR r i hrl hi
    have lr:=(hS.out.tb.lt.2 r hrl).2
    have HVL:=hid_mkP (hS.out.rest r j (Nat.le_refl _) hrl hjn)
    have HVR:=hid_mkP (hS.out.rest r i (Nat.le_refl _) hrl hi)
    have HSS:=hid_mkP hS.out
    obtain⟨vL,hvL⟩:∃ v,U r j=v:=⟨_,rfl⟩
    obtain⟨vR,hvR⟩:∃ v,U r i=v:=⟨_,rfl⟩
    have HUJ:=hid_mkP hvL
    have HUI:=hid_mkP hvR
    rw[hvL]at c0 HVL
    rw[hvR]at c1 HVR
    obtain⟨gr,hgr⟩:∃ q,gs r=q:=⟨_,rfl⟩
    have HGR:=hid_mkP hgr
    rw[hgr]at o0 c0 c1 lr
    clear hvL hvR hgr hS
    go_wp2
    go_quiet (fail)
    obtain⟨X,hX⟩:∃ X,X=W1.drewN nq:=⟨_,rfl⟩
    rw[<-hX]
    have hbX:Below W1.heap.size W1 X:=by rw[hX];exact below_drewN (Below.refl _ _) _
    have HSX:=hid_mkP (HSS.out.any hbX)
    have HLX:=hid_mkP ((HVL.out.on hbX).mono hbX.size (Nat.le_refl _) (Nat.le_refl _))
    have HRX:=hid_mkP ((HVR.out.on hbX).mono hbX.size (Nat.le_refl _) (Nat.le_refl _))
    clear hX hbX HSS HVL HVR o0 c0 c1 l0 lr
    go_wp2
    have HKPp:Hid (∀ W,Below X.heap.size X W->W.cell? ⟨gb,0,none⟩=some (.map (some ba))/\W.cell? ⟨gb,2,none⟩=some (.map (some bc))):=fun W hW=>by
     have g0:=(hW.block _ (Array.getElem?_eq_some_iff.1 HSX.out.box).1).trans HSX.out.box
     exact⟨block_cell g0 rfl,block_cell g0 rfl⟩
    have HDp:Hid (Below X.heap.size X X.drew):=below_drewN (Below.refl _ _) 1
    have lgbp:=(Array.getElem?_eq_some_iff.1 HSX.out.box).1
    apply cut_one
    case h=>
     intro key
     refine wp_region_held_drew (S:=fun w'=>w'.cell? ⟨gb,0,none⟩=some (.map (some ba))/\w'.cell? ⟨gb,2,none⟩=some (.map (some bc))) (by kernel_rfl) (HKPp.out _ HDp.out) (fun hHeld=>?_)
     refine tk 0 (h:=?_)
     refine tk 1 (h:=?_)
     refine tk 2 (h:=?_)
     refine tk 3 (h:=?_)
     refine tk 4 (h:=?_)
     refine tk 5 (h:=?_)
     refine tk 7 (h:=?_)
     refine tk 8 (h:=?_)
     refine tk 9 (h:=?_)
     refine tk 10 (h:=?_)
     try simp only[Act.put]
     refine rd1 6 (fun K hK=>?_)
     · go_simp
       go_wp2_with (go_at_call 22;refine(HTM.out vL ba (qA x) r j _ hrl hjn ((two_q x).1) ((HLX.out.on HDp.out).mono HDp.out.size (Nat.le_refl _) (Nat.le_refl _)) ((HSX.out.bl.a.on HDp.out).mono HDp.out.size)).mono ?_;rintro e9 wp ⟨zA,rfl,zAD,zAb⟩)
       have HzA:=hid_mkP zAD
       have Hp:Hid (Below X.heap.size X wp):=HDp.out.trans (zAb.mono HDp.out.size)
       have HzAb:=hid_mkP zAb
       clear zAD zAb
       refine hK.out _ _ (HKPp.out _ Hp.out) (fun hHeld=>?_)
       clear hK K
       try simp only[Act.put]
       refine rd1 11 (fun K hK=>?_)
       go_simp
       go_wp2_with (go_at_call 22;refine(HTM.out vR bc (qC x) r i _ hrl hi ((two_q x).2.2.1) ((HRX.out.on Hp.out).mono Hp.out.size (Nat.le_refl _) (Nat.le_refl _)) ((HSX.out.bl.c.on Hp.out).mono Hp.out.size)).mono ?_;rintro e9 wq ⟨zB,rfl,zBD,zBb⟩)
       have HzB:=hid_mkP zBD
       have Hq:Hid (Below X.heap.size X wq):=Hp.out.trans (zBb.mono Hp.out.size)
       have HzBb:=hid_mkP zBb
       clear zBD zBb
       refine hK.out _ _ (HKPp.out _ Hq.out) (fun hHeld=>?_)
       clear hK K
       try simp only[Act.put]
       have HM1:=hid_mkP (map_far HzA.out HzBb.out)
       refine rd1 12 (fun K hK=>?_)
       go_simp
       go_wp2_with (go_at_call 39;refine(HPL.out zA zB (qA x) (qC x) r (buL x (F r j) (F r i)) _ hrl ((two_q x).1) ((two_q x).2.2.1) (fun y=>q_L x _ _ y) HM1.out HzB.out).mono ?_;rintro e9 ws ⟨zC,rfl,hzC,hbs⟩)
       have HzC:=hid_mkP hzC
       have Hs:Hid (Below X.heap.size X ws):=Hq.out.trans (hbs.mono Hq.out.size)
       clear hzC hbs
       refine hK.out _ _ (HKPp.out _ Hs.out) (fun hHeld=>?_)
       clear hK K
       refine tk 13 (h:=?_)
       try simp only[Act.put]
       have hws:=HSX.out.any Hs.out
       have HPT:=hid_mkP (hws.put (q:=r) (j:=j) hrl (by omega) HzC.out)
       have cs:=hws.tb.cellR r j hrl hjn
       have fs:=(hws.tb.rows r hrl).frozenAt j
       have ls:=(hws.tb.lt.2 r hrl).2
       obtain⟨cR,hcR⟩:=row_cells (hws.tb.rows r hrl)
       have HLN:=hid_mkP ((((HLX.out.on Hs.out).mono Hs.out.size (Nat.le_refl _) (Nat.le_refl _)).set HPT.out.2 hcR).mono HPT.out.2.size (Nat.le_refl _) (Nat.le_refl _))
       have HRN:=hid_mkP ((((HRX.out.on Hs.out).mono Hs.out.size (Nat.le_refl _) (Nat.le_refl _)).set HPT.out.2 hcR).mono HPT.out.2.size (Nat.le_refl _) (Nat.le_refl _))
       have HKS : Hid ((ws.setCell ⟨gs r, j, none⟩ (.map (some zC))).cell? ⟨gb, 0, none⟩ = some (.map (some ba)) ∧ (ws.setCell ⟨gs r, j, none⟩ (.map (some zC))).cell? ⟨gb, 2, none⟩ = some (.map (some bc))) := (by
        have g0:=HPT.out.1.box
        exact⟨block_cell g0 rfl,block_cell g0 rfl⟩)
       rw[HGR.out]at HPT cs fs ls HKS HLN HRN
       generalize U r j=vO at cs
       clear hws hcR
       refine rd1 14 (fun K hK=>?_)
       go_simp
       refine hK.out _ _ HKS.out (fun hHeld=>?_)
       clear hK K hHeld HKS cs fs ls
       refine wpAnyH_done (by kernel_rfl) ?_ _
       try simp only[Act.put]
       have HPP:=hid_mkP HPT.out.1
       clear HPT
       generalize ws.setCell ⟨gr,j,none⟩ (.map (some zC))=Z at HPP HLN HRN ⊢
       clear HzC Hs HM1 HzB HzA HzBb HzAb Hp Hq
       revert zA zB zC Z
       exact key.out
    intro zAp zBp zCp Zp HSp HLZp HRZp
    go_wp2
    have HKPq:Hid (∀ W,Below Zp.heap.size Zp W->W.cell? ⟨gb,1,none⟩=some (.map (some bb))/\W.cell? ⟨gb,3,none⟩=some (.map (some bd))):=fun W hW=>by
     have g0:=(hW.block _ (Array.getElem?_eq_some_iff.1 HSp.out.box).1).trans HSp.out.box
     exact⟨block_cell g0 rfl,block_cell g0 rfl⟩
    have HDq:Hid (Below Zp.heap.size Zp Zp.drew):=below_drewN (Below.refl _ _) 1
    have lgbq:=(Array.getElem?_eq_some_iff.1 HSp.out.box).1
    apply cut_one
    case h=>
     intro key
     refine wp_region_held_drew (S:=fun w'=>w'.cell? ⟨gb,1,none⟩=some (.map (some bb))/\w'.cell? ⟨gb,3,none⟩=some (.map (some bd))) (by kernel_rfl) (HKPq.out _ HDq.out) (fun hHeld=>?_)
     refine tk 0 (h:=?_)
     refine tk 1 (h:=?_)
     refine tk 2 (h:=?_)
     refine tk 3 (h:=?_)
     refine tk 4 (h:=?_)
     refine tk 5 (h:=?_)
     refine tk 7 (h:=?_)
     refine tk 8 (h:=?_)
     refine tk 9 (h:=?_)
     refine tk 10 (h:=?_)
     try simp only[Act.put]
     refine rd1 6 (fun K hK=>?_)
     · go_simp
       go_wp2_with (go_at_call 22;refine(HTM.out vL bb (qB x) r j _ hrl hjn ((two_q x).2.1) ((HLZp.out.on HDq.out).mono HDq.out.size (Nat.le_refl _) (Nat.le_refl _)) ((HSp.out.bl.b.on HDq.out).mono HDq.out.size)).mono ?_;rintro e9 wp ⟨zA,rfl,zAD,zAb⟩)
       have HzA:=hid_mkP zAD
       have Hp:Hid (Below Zp.heap.size Zp wp):=HDq.out.trans (zAb.mono HDq.out.size)
       have HzAb:=hid_mkP zAb
       clear zAD zAb
       refine hK.out _ _ (HKPq.out _ Hp.out) (fun hHeld=>?_)
       clear hK K
       try simp only[Act.put]
       refine rd1 11 (fun K hK=>?_)
       go_simp
       go_wp2_with (go_at_call 22;refine(HTM.out vR bd (qD x) r i _ hrl hi ((two_q x).2.2.2) ((HRZp.out.on Hp.out).mono Hp.out.size (Nat.le_refl _) (Nat.le_refl _)) ((HSp.out.bl.d.on Hp.out).mono Hp.out.size)).mono ?_;rintro e9 wq ⟨zB,rfl,zBD,zBb⟩)
       have HzB:=hid_mkP zBD
       have Hq:Hid (Below Zp.heap.size Zp wq):=Hp.out.trans (zBb.mono Hp.out.size)
       have HzBb:=hid_mkP zBb
       clear zBD zBb
       refine hK.out _ _ (HKPq.out _ Hq.out) (fun hHeld=>?_)
       clear hK K
       try simp only[Act.put]
       have HM1:=hid_mkP (map_far HzA.out HzBb.out)
       refine rd1 12 (fun K hK=>?_)
       go_simp
       go_wp2_with (go_at_call 39;refine(HPL.out zA zB (qB x) (qD x) r (buR x (F r j) (F r i)) _ hrl ((two_q x).2.1) ((two_q x).2.2.2) (fun y=>q_R x _ _ y) HM1.out HzB.out).mono ?_;rintro e9 ws ⟨zC,rfl,hzC,hbs⟩)
       have HzC:=hid_mkP hzC
       have Hs:Hid (Below Zp.heap.size Zp ws):=Hq.out.trans (hbs.mono Hq.out.size)
       clear hzC hbs
       refine hK.out _ _ (HKPq.out _ Hs.out) (fun hHeld=>?_)
       clear hK K
       refine tk 13 (h:=?_)
       try simp only[Act.put]
       have hws:=HSp.out.any Hs.out
       have HPT:=hid_mkP (hws.put (q:=r) (j:=i) hrl (by omega) HzC.out)
       have cs:=hws.tb.cellR r i hrl hi
       have fs:=(hws.tb.rows r hrl).frozenAt i
       have ls:=(hws.tb.lt.2 r hrl).2
       obtain⟨cR,hcR⟩:=row_cells (hws.tb.rows r hrl)
       have HLN:=hid_mkP ((((HLZp.out.on Hs.out).mono Hs.out.size (Nat.le_refl _) (Nat.le_refl _)).set HPT.out.2 hcR).mono HPT.out.2.size (Nat.le_refl _) (Nat.le_refl _))
       have HRN:=hid_mkP ((((HRZp.out.on Hs.out).mono Hs.out.size (Nat.le_refl _) (Nat.le_refl _)).set HPT.out.2 hcR).mono HPT.out.2.size (Nat.le_refl _) (Nat.le_refl _))
       have HKS : Hid ((ws.setCell ⟨gs r, i, none⟩ (.map (some zC))).cell? ⟨gb, 1, none⟩ = some (.map (some bb)) ∧ (ws.setCell ⟨gs r, i, none⟩ (.map (some zC))).cell? ⟨gb, 3, none⟩ = some (.map (some bd))) := (by
        have g0:=HPT.out.1.box
        exact⟨block_cell g0 rfl,block_cell g0 rfl⟩)
       rw[HGR.out]at HPT cs fs ls HKS HLN HRN
       generalize uv U r j (.map (some zCp)) r i=vO at cs
       clear hws hcR
       refine rd1 14 (fun K hK=>?_)
       go_simp
       refine hK.out _ _ HKS.out (fun hHeld=>?_)
       clear hK K hHeld HKS cs fs ls
       refine wpAnyH_done (by kernel_rfl) ?_ _
       try simp only[Act.put]
       have HPP:=hid_mkP HPT.out.1
       clear HPT
       generalize ws.setCell ⟨gr,i,none⟩ (.map (some zC))=Z at HPP HLN HRN ⊢
       clear HzC Hs HM1 HzB HzA HzBb HzAb Hp Hq
       revert zA zB zC Z
       exact key.out
    intro zAq zBq zCq Zq HSq HLZq HRZq
    go_wp2
    have HFN:Hid (StM B w0 g n N K gs (r+1) (uv (uv U r j (.map (some zCp))) r i (.map (some zCq))) F (fun a c=>if a<r+1 then buS x (F a) c else F a c) gb ba bb bc bd x Zq):=⟨HSq.out.tb.congr (fun _ _ _ _=>rfl) (fun a c _ _=>bu_row x F _ r i j HX.out HIJ.out (fun _ _=>rfl) a c) (fun _ _=>rfl),HSq.out.rest,HSq.out.bl,HSq.out.box,HSq.out.bel,HSq.out.nb⟩
    go_roundw
    case rel=>exact⟨r+1,_,by omega,by go_num,HFN.out⟩
    case measure=>simp only[intOf];omega
  · obtain rfl:n=r:=by omega
    have HFN:Hid ((∃ V',Bu B g n (4*N) (K+1) gs n V' (fun a=>buS x (F a)) W1)/\Below B w0 W1):=⟨⟨U,hS.out.tb.congr (fun _ _ _ _=>rfl) (fun a c ha _=>(if_pos ha).symm) (fun _ _=>rfl)⟩,hS.out.bel⟩
    go_wp2
    exact bodyPost_end (v:=.tuple #[]) (by simp[results,Tryd.results16,go_sem]) rfl ⟨rfl,HFN.out.1,HFN.out.2⟩
end Go.Proofs.YtiliihlkpknhdaaDoor.Poly
/- Burau's tables: the walk of closure.table.told. -/
namespace Go.Proofs.YtiliihlkpknhdaaDoor.Poly
open Go.RowKit Go.Maps
set_option maxHeartbeats 8000000
set_option maxRecDepth 100000
theorem inForm_wk (v : Value) (n K : Nat) (f : Int → Int) (w : World) (hK : K ≤ 1000) (h : WkV w w.heap.size v n K f) :
    Calls Tryd.prog 29 #[v] w fun e w'=>∃ u,e=.returned u/\PV w' u f/\Below w.heap.size w w':=by
 rcases h with⟨rfl,h0⟩|⟨b,D,rfl,hlt,ho,hk,hc⟩
 · refine(inForm_nil w).mono fun e w' ⟨h1,h2⟩=>⟨_,h1,?_,h2⟩
   rw[show f=fun _=>0 from funext h0]
   exact pv_nil _
 · refine(inForm_keys b n D w ho (fun left acc hC=>Nat.le_trans (coll_lenB hC K hk) (by omega))).mono fun e w' ⟨u,l,h1,h2,h3,h4⟩=>⟨u,h1,⟨l,PolyC.ofRow h2,canon_congr h3 hc⟩,h4⟩
def fs (F:Nat->Nat->Int->Int) (r k:Nat):Nat->Nat->Int->Int:=fun a c=>if a<r∨(a=r/\c<k) then F a c else fun _=>0
theorem told_any (B g n N K : Nat) (gs : Nat → Nat) (V : Nat → Nat → Value) (F : Nat → Nat → Int → Int) (w : World) (hn : n ≤ 6) (hK : K ≤ 1000) (hT : Bu B g n N K gs n V F w) :
    Calls Tryd.prog 17 #[.slice (some ⟨g,0,none⟩) n n] w fun e w'=>∃ (q:Nat) (qs:Nat->Nat) (U:Nat->Nat->Value),e=.returned (.slice (some ⟨q,0,none⟩) n n)/\Td w.heap.size q n qs n U F w'/\Below w.heap.size w w':=by
 obtain⟨i0,hi,hz0,hz1,hz2⟩:=info_parts infoTss
 obtain⟨i1,hk,hx0,hx1,hx2⟩:=info_parts infoTs
 have HT:=hid_mkP hT
 have HIF:Hid (∀ a c W,a<n->c<n->Below w.heap.size w W->Calls Tryd.prog 29 #[V a c] W fun e w'=>∃ u,e=.returned u/\PV w' u (F a c)/\Below W.heap.size W w'):=fun a c W ha hc hW=>inForm_wk (V a c) N K (F a c) W hK (((hT.vals a c ha hc).on hW).mono hW.size (Nat.le_refl _) (Nat.le_refl _))
 have lg0:=hT.lt.1.2
 clear hT
 go_enter Tryd.func17,Tryd.ntmps17
 go_wp2_with (first|(at_make;refine wpList_make_full _ rfl _ _ 25 rfl w.heap.size 37 i0 (.slice none 0 0) 1 Tryd.underlying25 hi hz0 hz1 .i64 .i64 _ _ n rfl rfl rfl rfl (by rw[hz2];omega) (by unfold maxLen;omega) (by simp) ?_;intro w1 hrow1 hg1;refine Hid.out ?_))
 refine Lib.hid ?_
 rw[made_nilsT n n]at hrow1
 obtain⟨q,hq⟩:∃ q,w.heap.size=q:=⟨_,rfl⟩
 have HQ:=hid_mkP hq
 have HB1:Hid (Below w.heap.size w w1):=(Below.refl _ _).grown hg1 (Nat.le_refl _) (fun q hq=>by cases hq)
 have HT1:Hid (Td w.heap.size q n (fun _=>0) 0 (fun _ _=>.slice none 0 0) F w1):=⟨(by rw[<-hq];exact hrow1:w1.ownsRow w.heap.size 37 1 (.slice (some ⟨q,0,none⟩) n n) n (outT n n (fun _=>0) 0)),fun i hi=>absurd hi (Nat.not_lt_zero _),fun i j hi=>absurd hi (Nat.not_lt_zero _),fun i j hi=>absurd hi (Nat.not_lt_zero _)⟩
 rw[hq]
 clear hrow1 hg1 hq
 go_wp2
 go_loopw [13] (fun v13 wr=>∃ (r:Nat) (qs:Nat->Nat) (U:Nat->Nat->Value),r<=n/\v13=.int .i64 (r:Nat)/\Hid (Td w.heap.size q n qs r U F wr)/\Hid (Below w.heap.size w wr)) (fun v13 _=>n-(intOf v13).toNat)
 case atStart=>exact⟨0,fun _=>0,fun _ _=>.slice none 0 0,Nat.zero_le _,rfl,HT1.out,HB1.out⟩
 case round=>
  clear HT1 HB1
  rename World=>W1
  obtain⟨r,qs,U,hrn,rfl,hT,hB⟩:=hrel
  by_cases hrl:r<n
  · have hrI:(r:Int)<(n:Int):=by omega
    have o0:=(HT.out.any hB.out).cellO r hrl hrl
    have lg:=(HT.out.any hB.out).lt.1.2
    obtain⟨gr,hgr⟩:∃ z,gs r=z:=⟨_,rfl⟩
    have HGR:=hid_mkP hgr
    rw[hgr]at o0
    clear hgr
    go_wp2_with (first|(at_make;refine wpList_make_full _ rfl _ _ 37 rfl W1.heap.size 34 i1 (.slice none 0 0) 1 Tryd.underlying37 hk hx0 hx1 .i64 .i64 _ _ n rfl rfl rfl rfl (by rw[hx2];omega) (by unfold maxLen;omega) (by simp) ?_;intro w2 hrow2 hg2;refine Hid.out ?_))
    refine Lib.hid ?_
    rw[made_nilS n]at hrow2
    obtain⟨p,hp⟩:∃ p,W1.heap.size=p:=⟨_,rfl⟩
    have hb2:Below W1.heap.size W1 w2:=(Below.refl _ _).grown hg2 (Nat.le_refl _) (fun q hq=>by cases hq)
    obtain⟨hm1,hm2⟩:=hT.out.more hb2 (own_low (by rw[hp]at hrow2;exact hrow2) (by have:=hB.out.size;omega)) (by omega)
    have e0:w2.cell? ⟨q,r,none⟩=some (.slice none 0 0):=by
     rw[(hT.out.any hb2).outer.cellAt r (by omega),outT_get _ _ _ _ _ hrl,if_neg (Nat.lt_irrefl _)]
    have f0:=(hT.out.any hb2).outer.frozenAt r
    have lq:=(hT.out.any hb2).lt.1.2
    obtain⟨qs2,hqs2⟩:∃ z:Nat->Nat,z=fun i=>if i=r then p else qs i:=⟨_,rfl⟩
    have HQR:Hid (qs2 r=p):=(by rw[hqs2];exact if_pos rfl:qs2 r=p)
    obtain⟨X,hX⟩:∃ X,X=w2.setCell ⟨q,r,none⟩ (.slice (some ⟨p,0,none⟩) n n):=⟨_,rfl⟩
    have HXX:=hid_mkP hX
    rw[<-hqs2,<-hX]at hm1
    have HTX : Hid (Td w.heap.size q n qs2 (r + 1) (fun i j => if i = r then .slice none 0 0 else U i j) (fs F r 0) X) := hm1.congr (fun _ _ _ _ => rfl) (fun a c ha hc => by
     unfold fs
     by_cases e:a=r
     · rw[if_neg (by omega),if_pos e]
     · rw[if_pos (by omega),if_neg e]) (fun _ _=>rfl)
    have HBX:Hid (Below w.heap.size w X):=(by rw[hX];exact(hB.out.trans (hb2.mono hB.out.size)).grown hm2 (Nat.le_trans hB.out.size hb2.size) (fun z hz=>by have:=Option.some.inj hz;have:=hT.out.lt.1.1;omega):Below w.heap.size w X)
    rw[hp]
    clear hrow2 hg2 hb2 hm1 hm2 hp hqs2 hX hT hB
    go_upto_region 6 with(fail)
    rw[<-HXX.out]
    clear e0 f0 lq o0 lg
    go_wp2
    go_loopw [26] (fun v26 ws=>∃ (k:Nat) (U2:Nat->Nat->Value),k<=n/\v26=.int .i64 (k:Nat)/\Hid (Td w.heap.size q n qs2 (r+1) U2 (fs F r k) ws)/\Hid (Below w.heap.size w ws)) (fun v26 _=>n-(intOf v26).toNat)
    case atStart=>exact⟨0,_,Nat.zero_le _,rfl,HTX.out,HBX.out⟩
    case round=>
     clear HTX HBX
     rename World=>W2
     obtain⟨k,U2,hkn,rfl,hT,hB⟩:=hrel
     by_cases hkl:k<n
     · have hkI:(k:Int)<(n:Int):=by omega
       have c0:=(HT.out.any hB.out).cellR r k hrl hkl
       have lr:=((HT.out.any hB.out).lt.2 r hrl).2
       rw[HGR.out]at c0 lr
       have HIK:=hid_mkP (fun W hW=>HIF.out r k W hrl hkl hW)
       generalize V r k=v0 at c0 HIK
       have HTT:=hid_mkP hT.out
       have HBB:=hid_mkP hB.out
       have o1:=hT.out.cellO r (Nat.lt_succ_self r) hrl
       rw[HQR.out]at o1
       have lo:=hT.out.lt.1.2
       have HKP:Hid (∀ W,Below W2.heap.size W2 W->W.cell? ⟨q,r,none⟩=some (.slice (some ⟨p,0,none⟩) n n)):=fun W hW=>bcell hW lo o1
       have HD:Hid (Below W2.heap.size W2 W2.drew):=below_drewN (Below.refl _ _) 1
       clear hT hB
       go_wp2
       refine wp_region_held_drew (S:=fun w'=>w'.cell? ⟨q,r,none⟩=some (.slice (some ⟨p,0,none⟩) n n)) (by kernel_rfl) (HKP.out _ HD.out) (fun hHeld=>?_)
       refine tk 0 (h:=?_)
       refine tk 1 (h:=?_)
       refine tk 2 (h:=?_)
       refine tk 3 (h:=?_)
       refine tk 4 (h:=?_)
       refine tk 5 (h:=?_)
       try simp only[Act.put]
       refine rd1 6 (fun K hK=>?_)
       go_simp
       go_wp2_with (go_at_call 29;refine(HIK.out _ (HBB.out.trans (HD.out.mono HBB.out.size))).mono ?_;rintro e9 w5 ⟨u5,rfl,hp5,hb5⟩)
       have HP5:=hid_mkP hp5
       have H5:Hid (Below W2.heap.size W2 w5):=HD.out.trans (hb5.mono HD.out.size)
       obtain⟨-,⟨-,ua,um,uc,eu,-⟩,-⟩:=hp5
       subst eu
       clear hb5
       refine hK.out _ _ (HKP.out _ H5.out) (fun hHeld=>?_)
       clear hK K
       refine tk 7 (h:=?_)
       try simp only[Act.put]
       have ht5:=HTT.out.any H5.out
       have hst := ht5.set (V' := fun a c => if a = r ∧ c = k then .slice ua um uc else U2 a c) (F' := fs F r (k + 1)) r k (.slice ua um uc) (Nat.lt_succ_self r) (fun _ _ _ _ => rfl) (fun a c ha hc hne => by
        unfold fs
        by_cases e:a<r∨(a=r/\c<k)
        · rw[if_pos e,if_pos (by omega)]
        · rw[if_neg e,if_neg (by omega)]) (fun _=>by
        have e:fs F r (k+1) r k=F r k:=if_pos (Or.inr ⟨rfl,Nat.lt_succ_self k⟩)
        rw[e]
        exact HP5.out)
       have cs:=ht5.cellR r k (Nat.lt_succ_self r) hkl
       have fz:=(ht5.rows r (Nat.lt_succ_self r)).frozenAt k
       have ls:=(ht5.lt.2 r (Nat.lt_succ_self r)).2
       have HST:=hid_mkP hst.1
       have HBS:Hid (Below w.heap.size w (w5.setCell ⟨qs2 r,k,none⟩ (.slice ua um uc))):=((HBB.out.trans (H5.out.mono HBB.out.size)).grown hst.2 (Nat.le_trans HBB.out.size H5.out.size) (fun z hz=>by have h1:=Option.some.inj hz;have:=(ht5.lt.2 r (Nat.lt_succ_self r)).1;omega))
       have HKS:Hid ((w5.setCell ⟨qs2 r,k,none⟩ (.slice ua um uc)).cell? ⟨q,r,none⟩=some (.slice (some ⟨p,0,none⟩) n n)):=(by have h:=hst.1.cellO r (Nat.lt_succ_self r) hrl;rw[HQR.out]at h ⊢;exact h)
       rw[HQR.out]at cs fz ls HST HBS HKS
       generalize U2 r k=vO at cs
       clear ht5 hst
       refine rd1 8 (fun K hK=>?_)
       go_simp
       refine hK.out _ _ HKS.out (fun hHeld=>?_)
       clear hK K hHeld HKS cs fz ls
       refine wpAnyH_done (by kernel_rfl) ?_ _
       try simp only[Act.put]
       go_wp2
       go_roundw
       case rel=>exact⟨k+1,_,by omega,by go_num,HST.out,HBS.out⟩
       case measure=>simp only[intOf];omega
     · obtain rfl:n=k:=by omega
       have HFN:Hid (Td w.heap.size q n qs2 (r+1) U2 F W2):=hT.out.congr (fun _ _ _ _=>rfl) (fun a c ha hc=>(if_pos (by omega)).symm) (fun _ _=>rfl)
       have HBB:=hid_mkP hB.out
       go_wp2
       go_roundw
       case rel=>exact⟨r+1,qs2,U2,by omega,by go_num,HFN.out,HBB.out⟩
       case measure=>simp only[intOf];omega
  · obtain rfl:n=r:=by omega
    have HFN:=hid_mkP hT.out
    have HBB:=hid_mkP hB.out
    go_wp2
    go_ret
    exact⟨q,qs,U,rfl,HFN.out,HBB.out⟩
end Go.Proofs.YtiliihlkpknhdaaDoor.Poly
/- Burau's tables: the walk of closure.Burau. -/
namespace Go.Proofs.YtiliihlkpknhdaaDoor.Poly
open Go.RowKit Go.Maps
set_option maxHeartbeats 8000000
set_option maxRecDepth 100000
theorem letters_okB {n:Nat} {l:List Int} (h:wordN (n:Int) l=0):∀ j,j<l.length->1<=(l.getD j 0).natAbs/\(l.getD j 0).natAbs<n:=fun j hj=>by
 obtain⟨-,-,h3,-⟩:=wordN_ok h
 have:=h3 j hj
 omega
theorem burau_yes (a : Option Addr) (c n : Nat) (l : List Int) (w : World) (hn : wordN (n : Int) l = 0) (h : RdAt w w.heap.size 1 (.slice a l.length c) l.length (intsV l)) :
    Calls Tryd.prog 6 #[.int .i64 (n:Nat),.slice a l.length c] w fun e w'=>∃ (B q:Nat) (qs:Nat->Nat) (U:Nat->Nat->Value),e=.returned (.tuple #[.slice (some ⟨q,0,none⟩) n n,.int .i64 0])/\Td B q n qs n U (buT l l.length) w'/\Below w.heap.size w w':=by
 obtain⟨n2,n6,-,hl20⟩:=wordN_ok hn
 have hn6:n<=6:=by omega
 have HF:Hid (Calls Tryd.prog 14 #[.int .i64 (n:Nat),.slice a l.length c] w fun e w'=>∃ a2 c2,e=.returned (.tuple #[.slice a2 n c2,.int .i64 0])/\RdAt w' w'.heap.size 1 (.slice a2 n c2) n (intsV (endT (begT n l l.length) n))/\Below w.heap.size w w'):=ends_yes a c n l w (by omega) hn h
 have HLT:Hid (∀ j,j<l.length->1<=(l.getD j 0).natAbs/\(l.getD j 0).natAbs<n):=letters_okB hn
 have HRD:=hid_mkP h
 generalize endT (begT n l l.length) n=T at HF
 obtain⟨m,hm⟩:∃ m,l.length=m:=⟨_,rfl⟩
 have HM:=hid_mkP hm
 rw[hm]at HF HLT hl20 ⊢
 clear h hn hm
 go_enter Tryd.func6,Tryd.ntmps6
 go_wp2_with (go_at_call 14;refine HF.out.mono ?_;rintro e9 w2 ⟨a2,c2,rfl,-,hb2⟩;refine Hid.out ?_)
 refine Lib.hid ?_
 have HB2:=hid_mkP hb2
 clear hb2
 go_wp2_with (go_at_call 15;refine(unit_any n l _ hn6).mono ?_;rintro e9 w3 ⟨g,gs,V,rfl,hT3,hb3⟩;refine Hid.out ?_)
 refine Lib.hid ?_
 have HT3:Hid (Bu w2.heap.size g n (4 ^ 0) 0 gs n V (buT l 0) w3):=hT3
 have HB3:=hid_mkP hb3
 clear hT3 hb3
 go_wp2
 go_loopw [24] (fun v24 wr=>∃ (k:Nat) (U:Nat->Nat->Value),k<=m/\v24=.int .i64 (k:Nat)/\Hid (Bu w2.heap.size g n (4 ^ k) k gs n U (buT l k) wr)/\Hid (Below w2.heap.size w2 wr)) (fun v24 _=>m-(intOf v24).toNat)
 case atStart=>exact⟨0,V,Nat.zero_le _,rfl,HT3.out,HB3.out⟩
 case round=>
  clear HT3 HB3
  rename World=>W1
  obtain⟨k,U,hkm,rfl,hT,hB⟩:=hrel
  by_cases hk:k<m
  · have hkI:(k:Int)<(m:Int):=by omega
    obtain⟨b,off,ea,hlt,hc⟩:=(HRD.out.on (HB2.out.trans (hB.out.mono HB2.out.size))).intAt k (by rw[HM.out];exact hk)
    have hx:=HLT.out k hk
    have hp4:4 ^ k<=100000000000000:=Nat.le_trans (Nat.pow_le_pow_right (by decide) (show k<=19 by omega)) (by decide)
    have hp3:3 ^ k<=1200000000:=Nat.le_trans (Nat.pow_le_pow_right (by decide) (show k<=19 by omega)) (by decide)
    have HMU:=hid_mkP (multiply_any w2.heap.size w2 g n (4 ^ k) k (3 ^ k) (l.getD k 0).natAbs ((l.getD k 0).natAbs-1) gs U (buT l k) (l.getD k 0) W1 hn6 hx.2 (by omega) rfl hp4 (by omega) hp3 (fun r s _ _ y=>(buT_ok l k r s).bd y) hT.out hB.out)
    have HNX:Hid ((fun r=>buS (l.getD k 0) (buT l k r))=buT l (k+1)/\4*4 ^ k=4 ^ (k+1)):=(⟨rfl,by rw[Nat.pow_succ,Nat.mul_comm]⟩:(fun r=>buS (l.getD k 0) (buT l k r))=buT l (k+1)/\4*4 ^ k=4 ^ (k+1))
    rw[HNX.out.1,HNX.out.2]at HMU
    clear HNX
    generalize l.getD k 0=x at hc HMU
    have lb:b<W1.heap.size:=Nat.lt_of_lt_of_le hlt (Nat.le_trans HB2.out.size hB.out.size)
    subst ea
    clear hx hp4 hp3 hT hB
    go_wp2_with (go_at_call 16;refine HMU.out.mono ?_;rintro e9 w5 ⟨rfl,⟨U5,hT5⟩,hb5⟩;refine Hid.out ?_)
    refine Lib.hid ?_
    have HT5:=hid_mkP hT5
    have HB5:=hid_mkP hb5
    clear hT5 hb5
    go_wp2
    go_roundw
    case rel=>exact⟨k+1,U5,by omega,by go_num,HT5.out,HB5.out⟩
    case measure=>simp only[intOf];omega
  · obtain rfl:m=k:=by omega
    have HTD:=hid_mkP (told_any w2.heap.size g n (4 ^ m) m gs U (buT l m) W1 hn6 (by omega) hT.out)
    have HBW:Hid (Below w.heap.size w W1):=HB2.out.trans (hB.out.mono HB2.out.size)
    clear hT hB
    go_wp2_with (go_at_call 17;refine HTD.out.mono ?_;rintro e9 w5 ⟨q,qs,U5,rfl,hT5,hb5⟩;refine Hid.out ?_)
    refine Lib.hid ?_
    have HFN:=hid_mkP hT5
    have HB5:Hid (Below w.heap.size w w5):=HBW.out.trans (hb5.mono HBW.out.size)
    clear hT5 hb5
    go_wp2
    go_ret2
    exact⟨_,q,qs,U5,rfl,HFN.out,HB5.out⟩
end Go.Proofs.YtiliihlkpknhdaaDoor.Poly
