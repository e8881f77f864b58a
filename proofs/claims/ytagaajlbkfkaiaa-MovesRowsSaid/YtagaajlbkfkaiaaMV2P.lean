/- Several texts of the proof, one behind the other. -/
import Derived.Test.YtagaajlbkfkaiaaMV1
import Derived.Test.YtagaajlbkfkaiaaO0P
import Derived.Deep.RegionHeld3
import Derived.Deep.Cut
import Derived.Test.YtagaajlbkfkaiaaQueP
import Derived.Test.YtagaajlbkfkaiaaH7
import Derived.Test.YtagaajlbkfkaiaaTkhP
import Derived.Deep.LoopGhost
import Derived.Test.YtagaajlbkfkaiaaF5P
/- Moves: the walk of moves.Do, given what laid and moved do. -/
namespace Go.Proofs.Ytagaajlbkfkaiaa
open Go.RowKit
theorem grown_twoM {a b c:World} {row:Option Nat} (h:a.grownBy b row) (k:b.grownBy c row):a.grownBy c row:=
 ⟨k.os.trans h.os,k.tape.trans h.tape,k.output.trans h.output,Nat.le_trans h.size k.size,fun i hi hr=>(k.block i (Nat.lt_of_lt_of_le hi h.size) hr).trans (h.block i hi hr)⟩
theorem frozM {w:World} {g i:Nat} {cs:Array Value} {t:TypeId} (h:w.heap[g]?=some (.cells cs t (0,0))):w.frozen? ⟨g,i,none⟩=false:=by
 unfold World.frozen?
 rw[h]
 simp
theorem sz_allocM (w:World) (o:Obj):(w.alloc o).heap.size=w.heap.size+1:=by simp
theorem leaves_like {P:Program} {fn:Func} {R:Ending->World->Prop} {t1 t2:Array Value} (h:results fn t1=results fn t2):∀ (ds:List Deferred) (u:FrameMode) (w:World),Leaves P fn t1 R ds u w->Leaves P fn t2 R ds u w
 |[],.returning,w,hl=>by
  obtain⟨v,h1,h2⟩:=hl
  exact⟨v,by rw[<-h];exact h1,h2⟩
 |[],.panicking c,w,hl=>hl
 |[],.run,w,hl=>hl
 |d::ds,u,w,hl=>by
  obtain⟨h1,fv,cap,f,args,h2,h3,h4⟩:=hl
  refine⟨h1,fv,cap,f,args,h2,h3,h4.mono ?_⟩
  intro e u' w' hq
  cases e with
  |returned v=>exact leaves_like h ds _ _ hq
  |panicked c=>exact leaves_like h ds _ _ hq
  |outgrown=>exact hq
end Go.Proofs.Ytagaajlbkfkaiaa
/- Rows of moves: what a move is, what laid and moved do with it, and the walks of slices.Clone and of what Row defers. -/
namespace Go.Proofs.Ytagaajlbkfkaiaa
open Go.RowKit
set_option maxHeartbeats 4000000
set_option maxRecDepth 100000
theorem hidQ {P:Prop} (h:P):Hid P:=h
structure Mo where
 k:Int
 x:Int
 y:Int
 u:Int
 ub:Bool
 v:Int
 vb:Bool
 ov:Bool
def Mo.none:Mo:=⟨0,0,0,0,false,0,false,false⟩
def Mo.val (m:Mo):Value:=.agg #[.int .i64 m.k,.int .i64 m.x,.int .i64 m.y,.int .i64 m.u,.bool m.ub,.int .i64 m.v,.bool m.vb,.bool m.ov]
def MoAt (w:World) (b off:Nat) (ms:List Mo):Prop:=∀ i,i<ms.length->
 w.cell? ⟨b,off+i*8,none⟩=some (.int .i64 (ms.getD i Mo.none).k)/\w.cell? ⟨b,off+i*8+1,none⟩=some (.int .i64 (ms.getD i Mo.none).x)/\
 w.cell? ⟨b,off+i*8+2,none⟩=some (.int .i64 (ms.getD i Mo.none).y)/\w.cell? ⟨b,off+i*8+3,none⟩=some (.int .i64 (ms.getD i Mo.none).u)/\
 w.cell? ⟨b,off+i*8+4,none⟩=some (.bool (ms.getD i Mo.none).ub)/\w.cell? ⟨b,off+i*8+5,none⟩=some (.int .i64 (ms.getD i Mo.none).v)/\
 w.cell? ⟨b,off+i*8+6,none⟩=some (.bool (ms.getD i Mo.none).vb)/\w.cell? ⟨b,off+i*8+7,none⟩=some (.bool (ms.getD i Mo.none).ov)
def Mvs (w:World) (B:Nat) (v:Value) (ms:List Mo):Prop:=∃ a cap,v=.slice a ms.length cap/\ms.length<=maxLen/\(0<ms.length->∃ b off,a=some ⟨b,off,none⟩/\b<B/\MoAt w b off ms)
theorem MoAt.on {w w':World} {B b off:Nat} {ms:List Mo} (h:MoAt w b off ms) (hb:Below B w w') (hlt:b<B):MoAt w' b off ms:=fun i hi=>by
 obtain⟨h0,h1,h2,h3,h4,h5,h6,h7⟩:=h i hi
 exact⟨bcell hb hlt h0,bcell hb hlt h1,bcell hb hlt h2,bcell hb hlt h3,bcell hb hlt h4,bcell hb hlt h5,bcell hb hlt h6,bcell hb hlt h7⟩
theorem Mvs.up {w w':World} {v:Value} {ms:List Mo} (h:Mvs w w.heap.size v ms) (hb:Below w.heap.size w w'):Mvs w' w'.heap.size v ms:=by
 obtain⟨a,cap,rfl,hn,g⟩:=h
 refine⟨a,cap,rfl,hn,fun h0=>?_⟩
 obtain⟨b,off,rfl,hlt,hC⟩:=g h0
 exact⟨b,off,rfl,Nat.lt_of_lt_of_le hlt hb.size,hC.on hb hlt⟩
structure CrF (w:World) (B:Nat) (a:Option Addr) (c:Nat) (C:List Cr):Prop where
 crs:Crs w w.heap.size (.slice a C.length c) C
 far:0<C.length->∀ ad,a=some ad->B<=ad.block
theorem CrF.up {w w':World} {B:Nat} {a:Option Addr} {c:Nat} {C:List Cr} (h:CrF w B a c C) (hb:Below w.heap.size w w'):CrF w' B a c C:=⟨h.crs.up hb,h.far⟩
theorem CrF.put {w w':World} {B g:Nat} {a:Option Addr} {c:Nat} {C:List Cr} (h:CrF w B a c C) (hg:w.grownBy w' (some g)) (hB:g<B):CrF w' B a c C:=by
 refine⟨?_,h.far⟩
 obtain⟨a',cap',e,hn,k⟩:=h.crs
 injection e with e1 e2 e3
 subst e1 e3
 refine⟨a,c,rfl,hn,fun h0=>?_⟩
 obtain⟨b,off,h1,h2,h3⟩:=k h0
 have hf:B<=b:=h.far h0 _ h1
 refine⟨b,off,h1,Nat.lt_of_lt_of_le h2 hg.size,fun i hi=>?_⟩
 have hbk:=hg.block b h2 (fun e=>by have:=Option.some.inj e;omega)
 have hc:∀ j u,w.cell? ⟨b,j,none⟩=some u->w'.cell? ⟨b,j,none⟩=some u:=fun j u hu=>by
  simp only[World.cell?]at hu ⊢
  rw[hbk]
  exact hu
 obtain⟨q0,q1,q2,q3,q4⟩:=h3 i hi
 exact⟨hc _ _ q0,hc _ _ q1,hc _ _ q2,hc _ _ q3,hc _ _ q4⟩
theorem own_fewQ {w:World} {B e s n:Nat} {v:Value} {xs:List Value} (h:w.ownsRow B e s v n xs):n<=maxLen:=by
 rcases h.2 with⟨-,h2⟩|⟨g,cp,cu,-,-,-,h5,h6,-⟩
 · subst h2
   unfold maxLen
   omega
 · omega
theorem own_crf {w:World} {B B' e:Nat} {a:Option Addr} {c:Nat} {C:List Cr} (h:w.ownsRow B e 5 (.slice a C.length c) C.length (crossCells C)) (hB:B'<=B):CrF w B' a c C:=by
 have h0:=crs_own h (own_fewQ h)
 refine⟨h0,fun hp ad e=>?_⟩
 subst e
 obtain⟨a',c',e,hn,k⟩:=h0
 injection e with e1 e2 e3
 obtain⟨b,off,h1,h2,h3⟩:=k hp
 rw[<-e1]at h1
 have h4:=Option.some.inj h1
 subst h4
 have:=(h.lt b rfl).1
 simp only
 omega
def Ways (a:Option Addr) (cap:Nat) (C:List Cr) (loops:Int) (m:Mo) (D:List Cr) (lo ce:Int) (w:World):Prop:=
 (D=[]/\lo=0/\ce=7/\∀ W,Below w.heap.size w W->Calls Try.prog 29 #[.agg #[.slice a C.length cap,.int .i64 loops]] W fun e w'=>e=.panicked (gaveUp 7)/\Below W.heap.size W w')∨
 ((∀ W,Below w.heap.size w W->Calls Try.prog 29 #[.agg #[.slice a C.length cap,.int .i64 loops]] W fun e w'=>∃ gF cF gT cT,e=.returned (drV a cap C loops gF cF gT cT)/\Dr w' a cap C gF gT/\Below W.heap.size W w')/\
  ((D=[]/\lo=0/\ce≠0/\∀ W gF cF gT cT,Dr W a cap C gF gT->Calls Try.prog 30 #[drV a cap C loops gF cF gT cT,m.val] W fun e w'=>e=.panicked (gaveUp ce)/\Below W.heap.size W w')∨
   (ce=0/\∀ W gF cF gT cT,Dr W a cap C gF gT->Calls Try.prog 30 #[drV a cap C loops gF cF gT cT,m.val] W fun e w'=>∃ a2 c2,e=.returned (.agg #[.slice a2 D.length c2,.int .i64 lo])/\w'.ownsRow W.heap.size 71 5 (.slice a2 D.length c2) D.length (crossCells D)/\Below W.heap.size W w')))
theorem caughtR (p:Addr) (x why:Int) (older:List PanicEntry) (w:World) (hc:w.cell? p=some (.int .i64 x)) (hz:w.frozen? p=false):
    CallsD Try.prog 40 #[.pointer (some p)] (.panicking ({ v:=.iface 29 (.int .i64 why),recovered:=false }::older)) w fun e u' w'=>
     e=.returned (.tuple #[])/\u'=.panicking ({ v:=.iface 29 (.int .i64 why),recovered:=true }::older)/\w'=w.setCell p (.int .i64 why):=by
 refine callsD_of_wpS Try.func40 rfl fun c₀ cs hu=>?_
 apply wpS_seq
 apply wpS_region
 simp[wpOpsS,go_sem,recoverD,hu,Try.ntmps40,Exit.thenS]
 apply wpS_seq
 apply wpS_region
 simp[wpOpsS,go_sem,Exit.thenS,Array.replicate]
 refine wpS_cond (t:=true) (by simp[Act.eval]) ?_
 simp only[if_true]
 apply wpS_region
 have hta:Sem.run Try.prog (Instr.typeAssert (Value.iface 29 (Value.int IntKind.i64 why)) 20 29 false) w=.ok (.int .i64 why) w:=by rfl
 simp[wpOpsS,go_sem,hta,hc,hz,bodyPostS,results,Try.results40]
theorem uncaughtR (p:Addr) (w:World):
    CallsD Try.prog 40 #[.pointer (some p)] .returning w fun e u' w'=>e=.returned (.tuple #[])/\u'=.returning/\w'=w:=by
 refine callsD_of_wpS Try.func40 rfl fun c₀ cs hu=>?_
 apply wpS_seq
 apply wpS_region
 simp[wpOpsS,go_sem,recoverD,hu,Try.ntmps40,Exit.thenS]
 apply wpS_seq
 apply wpS_region
 simp[wpOpsS,go_sem,Exit.thenS,Array.replicate]
 refine wpS_cond (t:=false) (by simp[Act.eval]) ?_
 simp only[Bool.false_eq_true,if_false]
 refine wpS_of_wp (wp_skip ?_)
 cases c₀
 simp_all [bodyPostS,results,Try.results40]
theorem row_keeps {R:Ending->World->Prop} (d:Nat) (h4:d≠4) (h5:d≠5) (h6:d≠6) (v:Value) (x:List PanicEntry) (a:Act) (w:World) (h:bodyPostD Try.prog Try.f13 R (.panic x) (Act.put a (some d) v) w):bodyPostD Try.prog Try.f13 R (.panic x) a w:=by
 refine leaves_like ?_ _ _ _ h
 simp[results,Try.results13,Act.put,h4,h5,h6]
theorem cross_cellsQ {w:World} {b off:Nat} {C:List Cr} (h:CrossAt w b off C):∀ j u,(crossCells C)[j]?=some u->w.cell? ((⟨b,off,none⟩:Addr).add j)=some u:=by
 intro j u hj
 have hl:(crossCells C).length=C.length*5:=cells_length C
 have hjl:j<C.length*5:=by
  rcases Nat.lt_or_ge j (C.length*5) with q|q
  · exact q
  · rw[List.getElem?_eq_none (by omega)]at hj;cases hj
 obtain⟨i,r,hr,rfl⟩:∃ i r,r<5/\j=i*5+r:=⟨j / 5,j%5,by omega,by omega⟩
 have hi:i<C.length:=by omega
 obtain⟨c0,c1,c2,c3,c4⟩:=cells_get C i hi
 obtain⟨d0,d1,d2,d3,d4⟩:=h i hi
 rw[Addr.add_lit,show off+(i*5+r)=off+i*5+r by omega]
 match r,hr with
 |0,_=>rw[show i*5+0=i*5 by omega,c0]at hj;rw[<-hj];exact d0
 |1,_=>rw[c1]at hj;rw[<-hj];exact d1
 |2,_=>rw[c2]at hj;rw[<-hj];exact d2
 |3,_=>rw[c3]at hj;rw[<-hj];exact d3
 |4,_=>rw[c4]at hj;rw[<-hj];exact d4
theorem clone_crs (a:Option Addr) (cap:Nat) (C:List Cr) (w:World) (hl:C.length<=1000) (h:Crs w w.heap.size (.slice a C.length cap) C):
    Calls Try.prog 42 #[.slice a C.length cap] w fun e w'=>∃ a2 c2,e=.returned (.slice a2 C.length c2)/\CrF w' w.heap.size a2 c2 C/\Below w.heap.size w w':=by
 obtain⟨i0,hi,hz0,hz1,hz2⟩:=info_parts infoCross
 cases a with
 |none=>
  have h0:C=[]:=by
   rcases C with _|⟨x,l⟩
   · rfl
   · obtain⟨a',c',e,hn,k⟩:=h
     injection e with e1 e2 e3
     obtain⟨b,off,h1,h2,h3⟩:=k (by simp)
     rw[<-e1]at h1
     cases h1
  subst h0
  have hnil:∀ W:World,Sem.run Try.prog (binOp .eql 22 (.slice none 0 cap) (.slice none 0 0)) W=.ok (.bool true) W:=by
   intro W
   first
    |rfl
    |(simp[binOp,go_sem];done)
    |(unfold binOp;simp[go_sem,Try.underlying22];done)
  go_enter Try.func42,Try.ntmps42
  go_wp2
  go_ret
  exact⟨none,0,rfl,⟨⟨none,0,rfl,by simp,fun hp=>by simp at hp⟩,fun hp=>by simp at hp⟩,Below.refl _ _⟩
 |some ad=>
  have hcl:∀ W,Below w.heap.size w W->∀ j u,(crossCells C)[j]?=some u->W.cell? (ad.add j)=some u:=fun W hW j u hj=>by
   by_cases hp:0<C.length
   · obtain⟨a',c',e,hn,k⟩:=h
     injection e with e1 e2 e3
     obtain⟨b,off,h1,h2,h3⟩:=k hp
     rw[<-e1]at h1
     have h4:=Option.some.inj h1
     subst h4
     exact cross_cellsQ (h3.on hW h2) j u hj
   · have h0:C=[]:=List.eq_nil_of_length_eq_zero (by omega)
     subst h0
     cases j<;>cases hj
  have HCL:=hidQ hcl
  have HB0 : Hid (Below w.heap.size w (w.alloc (.cells #[] 71))) := (Below.refl _ _).alloc (Nat.le_refl _) _
  have HE:=hidB ((World.ownsRow_lit w #[] 0 (Nat.le_refl _) (Nat.zero_le _) rfl:(w.alloc (.cells #[] 71)).ownsRow w.heap.size 71 5 (.slice (some ⟨w.heap.size,0,none⟩) 0 0) 0 []))
  have hnil:∀ W:World,Sem.run Try.prog (binOp .eql 22 (.slice (some ad) C.length cap) (.slice none 0 0)) W=.ok (.bool false) W:=by
   intro W
   first
    |rfl
    |(simp[binOp,go_sem];done)
    |(unfold binOp;simp[go_sem,Try.underlying22];done)
  clear h hcl
  go_enter Try.func42,Try.ntmps42
  go_wp2_with (first
   |(at_builtin;refine wpList_append_own _ rfl _ _ 22 rfl w.heap.size 71 i0 (.agg #[.int .i64 0,.int .i64 0,.int .i64 0,.int .i64 0,.bool false]) 5 40 Try.underlying22 hi hz0 hz1 hz2 rfl (by decide) _ _ _ rfl HE.out ad C.length cap (crossCells C) rfl (cells_length C) (HCL.out _ HB0.out) (cells_one C) (by unfold maxLen;omega) (by omega) (by simp) ?_;intro v8 w8 hown8 hg8 _;refine Hid.out ?_))
  refine Lib.hid ?_
  have HO:=hidB (show w8.ownsRow w.heap.size 71 5 v8 C.length (crossCells C) by simpa using hown8)
  have HB:Hid (Below w.heap.size w w8):=HB0.out.grown hg8 (by simp) (fun q hq=>by have:w.heap.size=q:=Option.some.inj hq;omega)
  clear hown8 hg8
  go_wp2
  go_ret
  obtain⟨a2,c2,rfl,-⟩:=crs_own HO.out (own_fewQ HO.out)
  exact⟨a2,c2,rfl,own_crf HO.out (Nat.le_refl _),HB.out⟩
end Go.Proofs.Ytagaajlbkfkaiaa
/- Rows of moves: the walk of moves.Row. -/
namespace Go.Proofs.Ytagaajlbkfkaiaa
open Go.RowKit
set_option maxHeartbeats 8000000
set_option maxRecDepth 100000
theorem row_boxes (a:Option Addr) (n c:Nat) (loops:Int) (w Y:World) (hY:Y=((w.alloc (.cells #[.slice a n c,.int .i64 loops] 24)).alloc (.cells #[.slice none 0 0,.int .i64 0] 24)).alloc (.cells #[.int .i64 0] 29)):
    Below w.heap.size w Y/\Y.heap.size=w.heap.size+3/\Y.heap[w.heap.size]?=some (.cells #[.slice a n c,.int .i64 loops] 24 (0,0))/\Y.heap[w.heap.size+1]?=some (.cells #[.slice none 0 0,.int .i64 0] 24 (0,0))/\Y.heap[w.heap.size+1+1]?=some (.cells #[.int .i64 0] 29 (0,0)):=by
 subst hY
 exact⟨(((Below.refl _ _).alloc (Nat.le_refl _) _).alloc (by simp) _).alloc (by simp only[sz_allocM];omega) _,by simp,alloc_old (alloc_old (alloc_at rfl)),alloc_old (alloc_at (by simp)),alloc_at (by simp)⟩
theorem row_gave {R:Ending->World->Prop} (B:Nat) (tm:Array Value) (a:Option Addr) (n c:Nat) (lo done why:Int) (w5:World) (h4:tm[4]?=some (.pointer (some ⟨B+1,0,none⟩))) (h5:tm[5]?=some (.int .i64 done)) (h6:tm[6]?=some (.pointer (some ⟨B+1+1,0,none⟩)))
    (q2:w5.heap[B+1]?=some (.cells #[.slice a n c,.int .i64 lo] 24 (0,0))) (q3:w5.heap[B+1+1]?=some (.cells #[.int .i64 0] 29 (0,0)))
    (hR:∀ w',w5.grownBy w' (some (B+1+1))->R (.returned (.tuple #[.agg #[.slice a n c,.int .i64 lo],.int .i64 done,.int .i64 why])) w'):
    bodyPostD Try.prog Try.f13 R (.panic (gaveUp why)) { tmps:=tm,defers:=[{ target:=Target.fn (Fn.func 40) #[.pointer (some ⟨B+1+1,0,none⟩)],args:=#[] }] } w5:=by
 have c3:=block_cell (i:=0) q3 rfl
 have z3:w5.frozen? ⟨B+1+1,0,none⟩=false:=frozM q3
 refine leaves_cons (f:=40) (args:=#[.pointer (some ⟨B+1+1,0,none⟩)]) (by simp) (by simp[go_sem]) ?_
 refine(caughtR ⟨B+1+1,0,none⟩ 0 why [] w5 c3 z3).mono ?_
 rintro e u' w'' ⟨rfl,rfl,rfl⟩
 have g3:=set_grown w5 (B+1+1) 0 (.int .i64 why)
 have r3:=set_block (i:=0) (u:=.int .i64 why) q3
 have r2:=(g3.block (B+1) (Array.getElem?_eq_some_iff.1 q2).1 (fun e=>by have:=Option.some.inj e;omega)).trans q2
 have x0:=block_cell (i:=0) (v:=.slice a n c) r2 rfl
 have x1:=block_cell (i:=1) (v:=.int .i64 lo) r2 rfl
 have x2:=block_cell (i:=0) (v:=.int .i64 why) r3 rfl
 have hfin:=hR _ g3
 simp[Leaves,settle,results,Try.results13,go_sem,h4,h5,h6,x0,x1,x2,hfin]
theorem row_done {R:Ending->World->Prop} (B:Nat) (tm:Array Value) (a:Option Addr) (n c:Nat) (lo done:Int) (w5:World) (h4:tm[4]?=some (.pointer (some ⟨B+1,0,none⟩))) (h5:tm[5]?=some (.int .i64 done)) (h6:tm[6]?=some (.pointer (some ⟨B+1+1,0,none⟩)))
    (q2:w5.heap[B+1]?=some (.cells #[.slice a n c,.int .i64 lo] 24 (0,0))) (q3:w5.heap[B+1+1]?=some (.cells #[.int .i64 0] 29 (0,0)))
    (hR:R (.returned (.tuple #[.agg #[.slice a n c,.int .i64 lo],.int .i64 done,.int .i64 0])) w5):
    bodyPostD Try.prog Try.f13 R .ret { tmps:=tm,defers:=[{ target:=Target.fn (Fn.func 40) #[.pointer (some ⟨B+1+1,0,none⟩)],args:=#[] }] } w5:=by
 refine leaves_cons (f:=40) (args:=#[.pointer (some ⟨B+1+1,0,none⟩)]) (by simp) (by simp[go_sem]) ?_
 refine(uncaughtR ⟨B+1+1,0,none⟩ w5).mono ?_
 rintro e u' w'' ⟨rfl,rfl,rfl⟩
 have x0:=block_cell (i:=0) (v:=.slice a n c) q2 rfl
 have x1:=block_cell (i:=1) (v:=.int .i64 lo) q2 rfl
 have x2:=block_cell (i:=0) (v:=.int .i64 0) q3 rfl
 show ∃ v,_/\_
 refine⟨_,?_,hR⟩
 simp[results,Try.results13,go_sem,h4,h5,h6,x0,x1,x2]
theorem mvRow_state (a:Option Addr) (n c:Nat) (loops:Int) (mv:Value) (w:World) (hL:∀ W,Below w.heap.size w W->Calls Try.prog 29 #[.agg #[.slice a n c,.int .i64 loops]] W fun e w'=>e=.panicked (gaveUp 7)/\Below W.heap.size W w'):
    Calls Try.prog 13 #[.agg #[.slice a n c,.int .i64 loops],mv] w fun e w'=>e=.returned (.tuple #[.agg #[.slice none 0 0,.int .i64 0],.int .i64 0,.int .i64 7])/\Below w.heap.size w w':=by
 have HL:=hidQ hL
 have hmf:∀ (fn:Fn) (first cap:Array Value) (w:World),(Instr.makeFunc fn first cap).run Try.prog w=.ok (.func fn first cap) w:=fun _ _ _ _=>rfl
 obtain⟨Y,hY⟩:∃ Y,Y=((w.alloc (.cells #[.slice a n c,.int .i64 loops] 24)).alloc (.cells #[.slice none 0 0,.int .i64 0] 24)).alloc (.cells #[.int .i64 0] 29):=⟨_,rfl⟩
 obtain⟨hb,hs,k0,k1,k2⟩:=row_boxes a n c loops w Y hY
 have HY:=hidQ hY
 have HB:=hidQ hb
 have HK1:=hidQ k1
 have HK2:=hidQ k2
 clear hL hY hb k0 k1 k2
 go_enter_defers Try.func13,Try.ntmps13
 go_wp2_with (go_at_call 29;rw[<-HY.out];refine(HL.out _ HB.out).mono ?_;rintro e9 w5 ⟨rfl,hb5⟩)
 have hbw:Below w.heap.size w w5:=HB.out.trans (hb5.mono (by omega))
 have q2:=(hb5.block _ (by omega)).trans HK1.out
 have q3:=(hb5.block _ (by omega)).trans HK2.out
 exact row_gave w.heap.size _ none 0 0 0 0 7 w5 rfl rfl rfl q2 q3 (fun w' hg=>⟨rfl,hbw.grown hg (by have:=(Array.getElem?_eq_some_iff.1 q3).1;omega) (fun q hq=>by have:=Option.some.inj hq;omega)⟩)
theorem mvRow_size (a:Option Addr) (c:Nat) (C:List Cr) (loops:Int) (ma:Option Addr) (L mc:Nat) (w:World) (hn:200<L) (hL:∀ W,Below w.heap.size w W->Calls Try.prog 29 #[.agg #[.slice a C.length c,.int .i64 loops]] W fun e w'=>∃ gF cF gT cT,e=.returned (drV a c C loops gF cF gT cT)/\Dr w' a c C gF gT/\Below W.heap.size W w'):
    Calls Try.prog 13 #[.agg #[.slice a C.length c,.int .i64 loops],.slice ma L mc] w fun e w'=>e=.returned (.tuple #[.agg #[.slice none 0 0,.int .i64 0],.int .i64 0,.int .i64 2])/\Below w.heap.size w w':=by
 unfold drV at hL
 have HL:=hidQ hL
 have hmf:∀ (fn:Fn) (first cap:Array Value) (w:World),(Instr.makeFunc fn first cap).run Try.prog w=.ok (.func fn first cap) w:=fun _ _ _ _=>rfl
 obtain⟨Y,hY⟩:∃ Y,Y=((w.alloc (.cells #[.slice a C.length c,.int .i64 loops] 24)).alloc (.cells #[.slice none 0 0,.int .i64 0] 24)).alloc (.cells #[.int .i64 0] 29):=⟨_,rfl⟩
 obtain⟨hb,hs,k0,k1,k2⟩:=row_boxes a C.length c loops w Y hY
 have HY:=hidQ hY
 have HB:=hidQ hb
 have HK1:=hidQ k1
 have HK2:=hidQ k2
 have hle:decide ((L:Int)<=200)=false:=decide_eq_false (by omega)
 clear hL hY hb k0 k1 k2
 go_enter_defers Try.func13,Try.ntmps13
 go_wp2_with (first
  |(go_at_call 41;refine(need_no 2 _).mono ?_;rintro e9 w6 ⟨rfl,rfl⟩)
  |(go_at_call 29;rw[<-HY.out];refine(HL.out _ HB.out).mono ?_;rintro e9 w5 ⟨gF,cF,gT,cT,rfl,-,hb5⟩))
 have hbA:Below w5.heap.size w5 (w5.alloc (.cells #[.slice a C.length c,.int .i64 loops,.slice (some ⟨gF,0,none⟩) (2*C.length+1) cF,.slice (some ⟨gT,0,none⟩) (2*C.length+1) cT] 63)):=(Below.refl _ _).alloc (Nat.le_refl _) _
 have hbw:Below Y.heap.size Y (w5.alloc (.cells #[.slice a C.length c,.int .i64 loops,.slice (some ⟨gF,0,none⟩) (2*C.length+1) cF,.slice (some ⟨gT,0,none⟩) (2*C.length+1) cT] 63)):=hb5.trans (hbA.mono hb5.size)
 have q2:=(hbw.block _ (by omega)).trans HK1.out
 have q3:=(hbw.block _ (by omega)).trans HK2.out
 exact row_gave w.heap.size _ none 0 0 0 0 2 _ rfl rfl rfl q2 q3 (fun w' hg=>⟨rfl,(HB.out.trans (hbw.mono (by omega))).grown hg (by have:=(Array.getElem?_eq_some_iff.1 q3).1;omega) (fun q hq=>by have:=Option.some.inj hq;omega)⟩)
structure RoAt (w W:World) (a:Option Addr) (c:Nat) (C:List Cr) (lo:Int):Prop where
 bel:Below w.heap.size w W
 size:w.heap.size+3<=W.heap.size
 box:W.heap[w.heap.size+1]?=some (.cells #[.slice a C.length c,.int .i64 lo] 24 (0,0))
 err:W.heap[w.heap.size+1+1]?=some (.cells #[.int .i64 0] 29 (0,0))
 crf:CrF W (w.heap.size+3) a c C
theorem mvRow_go (a:Option Addr) (c:Nat) (C:List Cr) (loops:Int) (ma:Option Addr) (mc:Nat) (ms:List Mo) (w:World) (D:Nat->List Cr) (lo ce:Nat->Int) (n:Nat) (hD0:D 0=C) (hlo0:lo 0=loops) (hl:C.length<=1000) (hms:ms.length<=200) (hn:n<=ms.length) (hok:∀ i,i<n->ce i=0) (hst:n<ms.length->ce n≠0)
    (hC:Crs w w.heap.size (.slice a C.length c) C) (hM:Mvs w w.heap.size (.slice ma ms.length mc) ms)
    (hL:∀ W,Below w.heap.size w W->Calls Try.prog 29 #[.agg #[.slice a C.length c,.int .i64 loops]] W fun e w'=>∃ gF cF gT cT,e=.returned (drV a c C loops gF cF gT cT)/\Dr w' a c C gF gT/\Below W.heap.size W w')
    (hW:∀ i,i<=n->i<ms.length->∀ a cap W,Crs W W.heap.size (.slice a (D i).length cap) (D i)->Ways a cap (D i) (lo i) (ms.getD i Mo.none) (D (i+1)) (lo (i+1)) (ce i) W):
    Calls Try.prog 13 #[.agg #[.slice a C.length c, .int .i64 loops], .slice ma ms.length mc] w fun e w' => ∃ a2 c2, e = .returned (.tuple #[.agg #[.slice a2 (D n).length c2, .int .i64 (lo n)], .int .i64 n, .int .i64 (if n < ms.length then ce n else 0)]) ∧ Crs w' w'.heap.size (.slice a2 (D n).length c2) (D n) ∧ Below w.heap.size w w' := by
 unfold drV at hL
 have HL:=hidQ hL
 have HW:=hidQ hW
 have HM:=hidQ hM
 have HC:=hidQ hC
 have HOK:=hidQ hok
 have HST:=hidQ hst
 have HD0:=hidQ hD0
 have HLO0:=hidQ hlo0
 obtain⟨len,hlen⟩:∃ len,ms.length=len:=⟨_,rfl⟩
 have HLEN:=hidQ hlen
 rw[hlen]at hms hn
 rw[hlen]
 obtain⟨er,her⟩:∃ er,(if n<len then ce n else 0)=er:=⟨_,rfl⟩
 have HER:Hid ((n<len->er=ce n)/\(¬ n<len->er=0)):=⟨fun h=>by rw[<-her,if_pos h],fun h=>by rw[<-her,if_neg h]⟩
 rw[her]
 clear her
 have hmf:∀ (fn:Fn) (first cap:Array Value) (w:World),(Instr.makeFunc fn first cap).run Try.prog w=.ok (.func fn first cap) w:=fun _ _ _ _=>rfl
 obtain⟨Y,hY⟩:∃ Y,Y=((w.alloc (.cells #[.slice a C.length c,.int .i64 loops] 24)).alloc (.cells #[.slice none 0 0,.int .i64 0] 24)).alloc (.cells #[.int .i64 0] 29):=⟨_,rfl⟩
 obtain⟨hb,hs,k0,k1,k2⟩:=row_boxes a C.length c loops w Y hY
 have HY:=hidQ hY
 have HB:=hidQ hb
 have HK1:=hidQ k1
 have HK2:=hidQ k2
 have hle:decide ((len:Int)<=200)=true:=decide_eq_true (by omega)
 clear hL hY hb k0 k1 k2 hW hM hC hok hst hD0 hlo0 hlen
 go_enter_defers Try.func13,Try.ntmps13
 go_upto_region 4 with(first
  |(go_at_call 41;refine(need_ok 2 _).mono ?_;rintro e9 w6 ⟨rfl,e6⟩;obtain rfl:=e6.symm;clear e6)
  |(go_at_call 29;rw[<-HY.out];refine(HL.out _ HB.out).mono ?_;rintro e9 w5 ⟨gF,cF,gT,cT,rfl,hd5,hb5⟩;clear hd5;have H5:=hidQ hb5;clear hb5))
 obtain⟨V,hV⟩:∃ V,w5.alloc (.cells #[.slice a C.length c,.int .i64 loops,.slice (some ⟨gF,0,none⟩) (2*C.length+1) cF,.slice (some ⟨gT,0,none⟩) (2*C.length+1) cT] 63)=V:=⟨_,rfl⟩
 have hbA:Below w5.heap.size w5 V:=by rw[<-hV];exact(Below.refl _ _).alloc (Nat.le_refl _) _
 have kV:V.heap[w5.heap.size]?=some (.cells #[.slice a C.length c,.int .i64 loops,.slice (some ⟨gF,0,none⟩) (2*C.length+1) cF,.slice (some ⟨gT,0,none⟩) (2*C.length+1) cT] 63 (0,0)):=by rw[<-hV];exact alloc_at rfl
 have lV:w5.heap.size<V.heap.size:=by rw[<-hV];simp
 rw[hV]
 have HYV:=hidQ (H5.out.trans (hbA.mono H5.out.size))
 have s5:=H5.out.size
 have HSV:Hid (∀ W,Below V.heap.size V W->(fun X:World=>X.cell? ⟨w5.heap.size,0,none⟩=some (.slice a C.length c)/\X.cell? ⟨w5.heap.size,1,none⟩=some (.int .i64 loops)) W):=fun W hW=>by
  have k0:=(hW.block _ lV).trans kV
  exact⟨block_cell k0 rfl,block_cell k0 rfl⟩
 have HKV:=hidQ kV
 have HDV : Hid (Below V.heap.size V V.drew) := (Below.refl _ _).drew
 clear hV hbA kV
 refine rhd HSV HDV.out (fun hHeld=>?_)
 refine wpAnyH_take (i:=0) (v:=?vva0) rfl (by kernel_rfl) (by kernel_rfl) (by kernel_rfl) (fun x a w' h=>row_keeps 17 (by decide) (by decide) (by decide) _ x a w' h) (Or.inl ⟨by rfl,?yya0⟩) (by assumption) ?rra0
 case yya0=>(intro w hSw;(try dsimp only at hSw);go_simp;(try with_reducible rfl))
 try simp only[Act.put]
 refine wpAnyH_take (i:=1) (v:=?vva1) rfl (by kernel_rfl) (by kernel_rfl) (by kernel_rfl) (fun x a w' h=>row_keeps 18 (by decide) (by decide) (by decide) _ x a w' h) (Or.inl ⟨by rfl,?yya1⟩) (by assumption) ?rra1
 case yya1=>(intro w hSw;(try dsimp only at hSw);go_simp;(try with_reducible rfl))
 try simp only[Act.put]
 refine wpAnyH_take (i:=2) (v:=?vva2) rfl (by kernel_rfl) (by kernel_rfl) (by kernel_rfl) (fun x a w' h=>row_keeps 19 (by decide) (by decide) (by decide) _ x a w' h) (Or.inl ⟨by rfl,?yya2⟩) (by assumption) ?rra2
 case yya2=>(intro w hSw;(try dsimp only at hSw);go_simp;(try with_reducible rfl))
 try simp only[Act.put]
 refine wpAnyH_take (i:=3) (v:=?vva3) rfl (by kernel_rfl) (by kernel_rfl) (by kernel_rfl) (fun x a w' h=>row_keeps 20 (by decide) (by decide) (by decide) _ x a w' h) (Or.inl ⟨by rfl,?yya3⟩) (by assumption) ?rra3
 case yya3=>(intro w hSw;(try dsimp only at hSw);go_simp;(try with_reducible rfl))
 try simp only[Act.put]
 refine wpAnyH_take (i:=5) (v:=?vva5) rfl (by kernel_rfl) (by kernel_rfl) (by kernel_rfl) (fun x a w' h=>row_keeps 22 (by decide) (by decide) (by decide) _ x a w' h) (Or.inl ⟨by rfl,?yya5⟩) (by assumption) ?rra5
 case yya5=>(intro w hSw;(try dsimp only at hSw);go_simp;(try with_reducible rfl))
 try simp only[Act.put]
 refine wpAnyH_take (i:=6) (v:=?vva6) rfl (by kernel_rfl) (by kernel_rfl) (by kernel_rfl) (fun x a w' h=>row_keeps 23 (by decide) (by decide) (by decide) _ x a w' h) (Or.inl ⟨by rfl,?yya6⟩) (by assumption) ?rra6
 case yya6=>(intro w hSw;(try dsimp only at hSw);go_simp;(try with_reducible rfl))
 try simp only[Act.put]
 refine wpAnyH_take (i:=7) (v:=?vva7) rfl (by kernel_rfl) (by kernel_rfl) (by kernel_rfl) (fun x a w' h=>row_keeps 24 (by decide) (by decide) (by decide) _ x a w' h) (Or.inl ⟨by rfl,?yya7⟩) (by assumption) ?rra7
 case yya7=>(intro w hSw;(try dsimp only at hSw);go_simp;(try with_reducible rfl))
 try simp only[Act.put]
 refine wpAnyH_take (i:=8) (v:=?vva8) rfl (by kernel_rfl) (by kernel_rfl) (by kernel_rfl) (fun x a w' h=>row_keeps 25 (by decide) (by decide) (by decide) _ x a w' h) (Or.inl ⟨by rfl,?yya8⟩) (by assumption) ?rra8
 case yya8=>(intro w hSw;(try dsimp only at hSw);go_simp;(try with_reducible rfl))
 try simp only[Act.put]
 clear hHeld
 refine rd1 4 (fun K hK=>?_)
 go_simp
 go_wp2_with (go_at_call 42;refine(clone_crs a c C _ hl (HC.out.up (HB.out.trans ((HYV.out.trans (HDV.out.mono HYV.out.size)).mono (by omega))))).mono ?_;rintro e9 w7 ⟨a7,c7,rfl,hc7,hb7⟩)
 have HB7:=hidQ (HDV.out.trans (hb7.mono HDV.out.size))
 have HC7:=hidQ hc7
 clear hb7 hc7
 refine hK.out _ _ (HSV.out _ HB7.out) (fun hHeld=>?_)
 clear hK K
 try simp only[Act.put]
 refine wpAnyH_take (i:=9) (v:=?vvb9) rfl (by kernel_rfl) (by kernel_rfl) (by kernel_rfl) (fun x a w' h=>row_keeps 26 (by decide) (by decide) (by decide) _ x a w' h) (Or.inl ⟨by rfl,?yyb9⟩) (by assumption) ?rrb9
 case yyb9=>(intro w hSw;(try dsimp only at hSw);go_simp;(try with_reducible rfl))
 try simp only[Act.put]
 clear hHeld
 have HY7:=hidQ (HYV.out.trans (HB7.out.mono HYV.out.size))
 have q2:=(HY7.out.block _ (by omega)).trans HK1.out
 have q3:=(HY7.out.block _ (by omega)).trans HK2.out
 have c0:=block_cell (i:=0) q2 rfl
 have c1:=block_cell (i:=1) q2 rfl
 have z0:w7.frozen? ⟨w.heap.size+1,0,none⟩=false:=frozM q2
 have z1:w7.frozen? ⟨w.heap.size+1,1,none⟩=false:=frozM q2
 have l2:w.heap.size+1<w7.heap.size:=(Array.getElem?_eq_some_iff.1 q2).1
 obtain⟨Z,hZ⟩:∃ Z,Z=(w7.setCell ⟨w.heap.size+1,0,none⟩ (.slice a7 C.length c7)).setCell ⟨w.heap.size+1,1,none⟩ (.int .i64 loops):=⟨_,rfl⟩
 have hgZ:w7.grownBy Z (some (w.heap.size+1)):=by rw[hZ];exact grown_twoM (set_grown _ _ _ _) (set_grown _ _ _ _)
 have hZ2:Z.heap[w.heap.size+1]?=some (.cells #[.slice a7 C.length c7,.int .i64 loops] 24 (0,0)):=by rw[hZ,set_block (set_block q2)];rfl
 have hZ3:Z.heap[w.heap.size+1+1]?=some (.cells #[.int .i64 0] 29 (0,0)):=(hgZ.block _ (Array.getElem?_eq_some_iff.1 q3).1 (fun e=>by have:=Option.some.inj e;omega)).trans q3
 have s7:=HB7.out.size
 have sV:=HYV.out.size
 have sZ:=hgZ.size
 have HRO:Hid (RoAt w Z a7 c7 (D 0) (lo 0)):=(by
  rw[HD0.out,HLO0.out]
  exact⟨(HB.out.trans (HY7.out.mono (by omega))).grown hgZ (by omega) (fun q hq=>by have:=Option.some.inj hq;omega),by omega,hZ2,hZ3,CrF.put (g:=w.heap.size+1) ⟨HC7.out.crs,fun hp ad e=>by have:=HC7.out.far hp ad e;have hds:V.drew.heap.size=V.heap.size:=rfl;omega⟩ hgZ (by omega)⟩)
 have HSZ:=hidQ (show(fun X:World=>X.cell? ⟨w5.heap.size,0,none⟩=some (.slice a C.length c)/\X.cell? ⟨w5.heap.size,1,none⟩=some (.int .i64 loops)) Z from by
  have k0:=(hgZ.block w5.heap.size (by omega) (fun e=>by have:=Option.some.inj e;omega)).trans ((HB7.out.block _ lV).trans HKV.out)
  exact⟨block_cell k0 rfl,block_cell k0 rfl⟩)
 have HZE:=hidQ hZ
 clear hZ
 refine rd1 10 (fun K hK=>?_)
 go_simp
 rw[<-HZE.out]
 clear HZE
 refine hK.out _ _ HSZ.out (fun hHeld=>?_)
 clear hK K
 try simp only[Act.put]
 refine wpAnyH_done (by kernel_rfl) ?_ _
 clear hHeld HSZ hZ2 hZ3 hgZ c0 c1 z0 z1 q2 q3
 go_wp2
 clear HKV HC7 HB7 HSV HDV HYV HY7 HL HK1 HK2 HY lV s5 s7 sV sZ l2
 go_loopw [5,29] (fun v5 v29 wr=>∃ (i:Nat) (ai:Option Addr) (ci:Nat),i<=n/\v29=.int .i64 (i:Nat)/\v5=.int .i64 (i:Nat)/\Hid (RoAt w wr ai ci (D i) (lo i))) (fun _ v29 _=>n+1-(intOf v29).toNat)
 case atStart=>exact⟨0,a7,c7,Nat.zero_le _,rfl,rfl,HRO⟩
 case round=>
  clear HRO
  rename World=>W1
  obtain⟨i,ai,ci,hi,rfl,rfl,hro⟩:=hrel
  by_cases hil:i<len
  · have hii:(i:Int)<(len:Int):=by omega
    have hii0:(0:Int)<=(i:Int):=by omega
    have hadd:IntKind.i64.wrap ((i:Int)+1)=(i:Int)+1:=IntWalk.i64_in _ (by omega)
    obtain⟨m,hm⟩:∃ m,ms.getD i Mo.none=m:=⟨_,rfl⟩
    have HGO:=hidQ (HW.out i hi (by rw[HLEN.out];exact hil))
    have HMA:=HM.out
    obtain⟨ma',mc',em,hmm,hmo⟩:=HMA
    injection em with em1 em2 em3
    obtain⟨mb,moff,em4,hmb,hmat⟩:=hmo (by rw[HLEN.out];omega)
    rw[<-em1]at em4
    have hcm:=(hmat.on hro.out.bel hmb) i (by rw[HLEN.out];exact hil)
    rw[hm]at hcm HGO
    obtain⟨mk,mx,my,mu,mub,mv,mvb,mo⟩:=m
    dsimp only at hcm
    obtain⟨g0,g1,g2,g3,g4,g5,g6,g7⟩:=hcm
    have lmb:mb<W1.heap.size:=Nat.lt_of_lt_of_le hmb (by have:=hro.out.size;omega)
    have HM2:=hidQ HM.out
    clear em1 em2 em3 hmo hmat hm HM hmm
    subst em4
    obtain⟨X,hX⟩:∃ X,W1.alloc (.cells #[.int .i64 mk,.int .i64 mx,.int .i64 my,.int .i64 mu,.bool mub,.int .i64 mv,.bool mvb,.bool mo] 28)=X:=⟨_,rfl⟩
    have HX:=hidQ hX
    have HB1:=hidQ (show Below W1.heap.size W1 X by rw[<-hX];exact(Below.refl _ _).alloc (Nat.le_refl _) _)
    have hk1:X.heap[W1.heap.size]?=some (.cells #[.int .i64 mk,.int .i64 mx,.int .i64 my,.int .i64 mu,.bool mub,.int .i64 mv,.bool mvb,.bool mo] 28 (0,0)):=by rw[<-hX];exact alloc_at rfl
    have hsX:X.heap.size=W1.heap.size+1:=by rw[<-hX];simp
    have HK1:=hidQ hk1
    have hw1:=hro.out.size
    have HK2:=hidQ ((HB1.out.block _ (by omega)).trans hro.out.box)
    have HK3:=hidQ ((HB1.out.block _ (by omega)).trans hro.out.err)
    have HCF:=hidQ (hro.out.crf.up HB1.out)
    have HBX:=hidQ (hro.out.bel.trans (HB1.out.mono (by omega)))
    have HSV:Hid (∀ W,Below X.heap.size X W->(fun X:World=>X.cell? ⟨W1.heap.size,0,none⟩=some (.int .i64 mk)/\X.cell? ⟨W1.heap.size,1,none⟩=some (.int .i64 mx)/\X.cell? ⟨W1.heap.size,2,none⟩=some (.int .i64 my)/\X.cell? ⟨W1.heap.size,3,none⟩=some (.int .i64 mu)/\X.cell? ⟨W1.heap.size,4,none⟩=some (.bool mub)/\X.cell? ⟨W1.heap.size,5,none⟩=some (.int .i64 mv)/\X.cell? ⟨W1.heap.size,6,none⟩=some (.bool mvb)/\X.cell? ⟨W1.heap.size,7,none⟩=some (.bool mo)) W):=fun W hW=>by
     have k1:=(hW.block _ (by omega)).trans HK1.out
     exact⟨block_cell k1 rfl,block_cell k1 rfl,block_cell k1 rfl,block_cell k1 rfl,block_cell k1 rfl,block_cell k1 rfl,block_cell k1 rfl,block_cell k1 rfl⟩
    have HDV : Hid (Below X.heap.size X X.drew) := (Below.refl _ _).drew
    have hWays:=HGO.out ai ci X HCF.out.crs
    have HXS:=hidB (show w.heap.size+4<=X.heap.size by omega)
    have b0:=block_cell (i:=0) HK2.out rfl
    have b1:=block_cell (i:=1) HK2.out rfl
    clear HGO hk1 hX hro
    unfold Ways Mo.val drV at hWays
    dsimp only at hWays
    go_upto_region 8 with(fail)
    rw[HX.out]
    clear g0 g1 g2 g3 g4 g5 g6 g7
    rcases hWays with⟨-,-,hce,hla⟩|⟨hla,⟨-,-,hce,hmo⟩|⟨hce,hmo⟩⟩
    · have HLA:=hidQ hla
      have HCE:=hidB (show ce i≠0 by rw[hce];decide)
      have HC7:=hidQ hce
      clear hla hce
      refine wp_region_held_drew (S:=(fun X:World=>X.cell? ⟨W1.heap.size,0,none⟩=some (.int .i64 mk)/\X.cell? ⟨W1.heap.size,1,none⟩=some (.int .i64 mx)/\X.cell? ⟨W1.heap.size,2,none⟩=some (.int .i64 my)/\X.cell? ⟨W1.heap.size,3,none⟩=some (.int .i64 mu)/\X.cell? ⟨W1.heap.size,4,none⟩=some (.bool mub)/\X.cell? ⟨W1.heap.size,5,none⟩=some (.int .i64 mv)/\X.cell? ⟨W1.heap.size,6,none⟩=some (.bool mvb)/\X.cell? ⟨W1.heap.size,7,none⟩=some (.bool mo))) (by kernel_rfl) (HSV.out _ HDV.out) (fun hHeld=>?_)
      refine wpAnyH_take (i:=2) (v:=?vvu2) rfl (by kernel_rfl) (by kernel_rfl) (by kernel_rfl) (fun x a w' h=>row_keeps 35 (by decide) (by decide) (by decide) _ x a w' h) (Or.inl ⟨by rfl,?yyu2⟩) (by assumption) ?rru2
      case yyu2=>(intro w hSw;(try dsimp only at hSw);go_simp;(try with_reducible rfl))
      try simp only[Act.put]
      clear hHeld
      refine rd1 0 (fun K hK=>?_)
      go_simp
      refine hK.out _ _ (HSV.out _ HDV.out) (fun hHeld=>?_)
      clear hK K hHeld b0 b1
      try simp only[Act.put]
      refine rd1 1 (fun K hK=>?_)
      go_simp
      go_wp2_with (go_at_call 29;refine(HLA.out _ HDV.out).mono ?_;rintro e9 w9 ⟨rfl,hb9⟩)
      have H9:=hidQ (HDV.out.trans (hb9.mono HDV.out.size))
      clear hb9
      have q2:=(H9.out.block _ (by omega)).trans HK2.out
      have q3:=(H9.out.block _ (by omega)).trans HK3.out
      have HIN:i=n:=(by
       rcases Nat.lt_or_ge i n with q|q
       · exact absurd (HOK.out i q) HCE.out
       · omega)
      refine row_gave w.heap.size _ ai (D i).length ci (lo i) i 7 _ rfl rfl rfl q2 q3 (fun w' hg=>?_)
      have hcr:CrF w' (w.heap.size+3) ai ci (D i):=(HCF.out.up H9.out).put hg (by omega)
      have hbb:Below w.heap.size w w':=(HBX.out.trans (H9.out.mono (by omega))).grown hg (by have:=H9.out.size;omega) (fun q hq=>by have:=Option.some.inj hq;omega)
      subst HIN
      rw[HER.out.1 hil]
      rw[HC7.out];exact⟨ai,ci,rfl,hcr.crs,hbb⟩
    · have HLA:=hidQ hla
      have HMO:=hidQ hmo
      have HCE:=hidQ hce
      clear hla hce hmo
      refine wp_region_held_drew (S:=(fun X:World=>X.cell? ⟨W1.heap.size,0,none⟩=some (.int .i64 mk)/\X.cell? ⟨W1.heap.size,1,none⟩=some (.int .i64 mx)/\X.cell? ⟨W1.heap.size,2,none⟩=some (.int .i64 my)/\X.cell? ⟨W1.heap.size,3,none⟩=some (.int .i64 mu)/\X.cell? ⟨W1.heap.size,4,none⟩=some (.bool mub)/\X.cell? ⟨W1.heap.size,5,none⟩=some (.int .i64 mv)/\X.cell? ⟨W1.heap.size,6,none⟩=some (.bool mvb)/\X.cell? ⟨W1.heap.size,7,none⟩=some (.bool mo))) (by kernel_rfl) (HSV.out _ HDV.out) (fun hHeld=>?_)
      refine wpAnyH_take (i:=2) (v:=?vvv2) rfl (by kernel_rfl) (by kernel_rfl) (by kernel_rfl) (fun x a w' h=>row_keeps 35 (by decide) (by decide) (by decide) _ x a w' h) (Or.inl ⟨by rfl,?yyv2⟩) (by assumption) ?rrv2
      case yyv2=>(intro w hSw;(try dsimp only at hSw);go_simp;(try with_reducible rfl))
      try simp only[Act.put]
      clear hHeld
      refine rd1 0 (fun K hK=>?_)
      go_simp
      refine hK.out _ _ (HSV.out _ HDV.out) (fun hHeld=>?_)
      clear hK K hHeld b0 b1
      try simp only[Act.put]
      refine rd1 1 (fun K hK=>?_)
      go_simp
      go_wp2_with (go_at_call 29;refine(HLA.out _ HDV.out).mono ?_;rintro e9 w8 ⟨gF,cF,gT,cT,rfl,hd8,hb8⟩)
      have H8:=hidQ (HDV.out.trans (hb8.mono HDV.out.size))
      have HD8:=hidQ hd8
      clear hb8 hd8
      refine hK.out _ _ (HSV.out _ H8.out) (fun hHeld=>?_)
      clear hK K
      try simp only[Act.put]
      clear hHeld
      refine rd1 3 (fun K hK=>?_)
      go_simp
      go_wp2_with (go_at_call 30;refine(HMO.out _ _ _ _ _ HD8.out).mono ?_;rintro e9 w9 ⟨rfl,hb9⟩)
      have H9:=hidQ (H8.out.trans (hb9.mono H8.out.size))
      clear hb9
      have q2:=(H9.out.block _ (by omega)).trans HK2.out
      have q3:=(H9.out.block _ (by omega)).trans HK3.out
      have HIN:i=n:=(by
       rcases Nat.lt_or_ge i n with q|q
       · exact absurd (HOK.out i q) HCE.out
       · omega)
      refine row_gave w.heap.size _ ai (D i).length ci (lo i) i (ce i) _ rfl rfl rfl q2 q3 (fun w' hg=>?_)
      have hcr:CrF w' (w.heap.size+3) ai ci (D i):=(HCF.out.up H9.out).put hg (by omega)
      have hbb:Below w.heap.size w w':=(HBX.out.trans (H9.out.mono (by omega))).grown hg (by have:=H9.out.size;omega) (fun q hq=>by have:=Option.some.inj hq;omega)
      subst HIN
      rw[HER.out.1 hil]
      exact⟨ai,ci,rfl,hcr.crs,hbb⟩
    · have HLA:=hidQ hla
      have HMO:=hidQ hmo
      have HCE:=hidQ hce
      clear hla hce hmo
      have hin:i<n:=by
       rcases Nat.lt_or_ge i n with q|q
       · exact q
       · have hq:i=n:=by omega
         exact absurd (hq▸HCE.out) (HST.out (by rw[HLEN.out];omega))
      refine wp_region_held_drew (S:=(fun X:World=>X.cell? ⟨W1.heap.size,0,none⟩=some (.int .i64 mk)/\X.cell? ⟨W1.heap.size,1,none⟩=some (.int .i64 mx)/\X.cell? ⟨W1.heap.size,2,none⟩=some (.int .i64 my)/\X.cell? ⟨W1.heap.size,3,none⟩=some (.int .i64 mu)/\X.cell? ⟨W1.heap.size,4,none⟩=some (.bool mub)/\X.cell? ⟨W1.heap.size,5,none⟩=some (.int .i64 mv)/\X.cell? ⟨W1.heap.size,6,none⟩=some (.bool mvb)/\X.cell? ⟨W1.heap.size,7,none⟩=some (.bool mo))) (by kernel_rfl) (HSV.out _ HDV.out) (fun hHeld=>?_)
      refine wpAnyH_take (i:=2) (v:=?vvx2) rfl (by kernel_rfl) (by kernel_rfl) (by kernel_rfl) (fun x a w' h=>row_keeps 35 (by decide) (by decide) (by decide) _ x a w' h) (Or.inl ⟨by rfl,?yyx2⟩) (by assumption) ?rrx2
      case yyx2=>(intro w hSw;(try dsimp only at hSw);go_simp;(try with_reducible rfl))
      try simp only[Act.put]
      clear hHeld
      refine rd1 0 (fun K hK=>?_)
      go_simp
      refine hK.out _ _ (HSV.out _ HDV.out) (fun hHeld=>?_)
      clear hK K hHeld b0 b1
      try simp only[Act.put]
      refine rd1 1 (fun K hK=>?_)
      go_simp
      go_wp2_with (go_at_call 29;refine(HLA.out _ HDV.out).mono ?_;rintro e9 w8 ⟨gF,cF,gT,cT,rfl,hd8,hb8⟩)
      have H8:=hidQ (HDV.out.trans (hb8.mono HDV.out.size))
      have HD8:=hidQ hd8
      clear hb8 hd8
      refine hK.out _ _ (HSV.out _ H8.out) (fun hHeld=>?_)
      clear hK K
      try simp only[Act.put]
      clear hHeld
      refine rd1 3 (fun K hK=>?_)
      go_simp
      go_wp2_with (go_at_call 30;refine(HMO.out _ _ _ _ _ HD8.out).mono ?_;rintro e9 w9 ⟨a9,c9,rfl,ho9,hb9⟩)
      have H9:=hidQ (H8.out.trans (hb9.mono H8.out.size))
      have s8:=H8.out.size
      have HO9:=hidQ (own_crf (B':=w.heap.size+3) ho9 (by omega))
      clear hb9 ho9
      refine hK.out _ _ (HSV.out _ H9.out) (fun hHeld=>?_)
      clear hK K hHeld
      try simp only[Act.put]
      have q2:=(H9.out.block _ (by omega)).trans HK2.out
      have q3:=(H9.out.block _ (by omega)).trans HK3.out
      have c0:=block_cell (i:=0) q2 rfl
      have c1:=block_cell (i:=1) q2 rfl
      have z0:w9.frozen? ⟨w.heap.size+1,0,none⟩=false:=frozM q2
      have z1:w9.frozen? ⟨w.heap.size+1,1,none⟩=false:=frozM q2
      have l2:w.heap.size+1<w9.heap.size:=(Array.getElem?_eq_some_iff.1 q2).1
      obtain⟨Z,hZ⟩:∃ Z,Z=(w9.setCell ⟨w.heap.size+1,0,none⟩ (.slice a9 (D (i+1)).length c9)).setCell ⟨w.heap.size+1,1,none⟩ (.int .i64 (lo (i+1))):=⟨_,rfl⟩
      have hgZ:w9.grownBy Z (some (w.heap.size+1)):=by rw[hZ];exact grown_twoM (set_grown _ _ _ _) (set_grown _ _ _ _)
      have hZ2:Z.heap[w.heap.size+1]?=some (.cells #[.slice a9 (D (i+1)).length c9,.int .i64 (lo (i+1))] 24 (0,0)):=by rw[hZ,set_block (set_block q2)];rfl
      have hZ3:Z.heap[w.heap.size+1+1]?=some (.cells #[.int .i64 0] 29 (0,0)):=(hgZ.block _ (Array.getElem?_eq_some_iff.1 q3).1 (fun e=>by have:=Option.some.inj e;omega)).trans q3
      have s9:=H9.out.size
      have sZ:=hgZ.size
      have HRZ:Hid (RoAt w Z a9 c9 (D (i+1)) (lo (i+1))):=⟨(HBX.out.trans (H9.out.mono (by omega))).grown hgZ (by omega) (fun q hq=>by have:=Option.some.inj hq;omega),by have:=HXS.out;omega,hZ2,hZ3,HO9.out.put hgZ (by omega)⟩
      have HZE:=hidQ hZ
      clear hZ hZ2 hZ3 q2 q3
      have HSZ:=hidQ (show(fun X:World=>X.cell? ⟨W1.heap.size,0,none⟩=some (.int .i64 mk)/\X.cell? ⟨W1.heap.size,1,none⟩=some (.int .i64 mx)/\X.cell? ⟨W1.heap.size,2,none⟩=some (.int .i64 my)/\X.cell? ⟨W1.heap.size,3,none⟩=some (.int .i64 mu)/\X.cell? ⟨W1.heap.size,4,none⟩=some (.bool mub)/\X.cell? ⟨W1.heap.size,5,none⟩=some (.int .i64 mv)/\X.cell? ⟨W1.heap.size,6,none⟩=some (.bool mvb)/\X.cell? ⟨W1.heap.size,7,none⟩=some (.bool mo)) Z from by
       have k0:=(hgZ.block W1.heap.size (by omega) (fun e=>by have:=Option.some.inj e;omega)).trans ((H9.out.block _ (by omega)).trans HK1.out)
       exact⟨block_cell k0 rfl,block_cell k0 rfl,block_cell k0 rfl,block_cell k0 rfl,block_cell k0 rfl,block_cell k0 rfl,block_cell k0 rfl,block_cell k0 rfl⟩)
      clear hgZ
      refine rd1 4 (fun K hK=>?_)
      go_simp
      rw[<-HZE.out]
      clear HZE
      refine hK.out _ _ HSZ.out (fun hHeld=>?_)
      clear hK K hHeld HSZ c0 c1 z0 z1
      try simp only[Act.put]
      refine wpAnyH_done (by kernel_rfl) ?_ _
      go_wp2
      go_roundw
      all_goals first
       |(simp only[intOf];omega)
       |exact⟨i+1,a9,c9,by omega,by go_num,by go_num,HRZ⟩
  · obtain rfl:i=n:=by omega
    have q2:=hro.out.box
    have q3:=hro.out.err
    have c0:=block_cell (i:=0) q2 rfl
    have c1:=block_cell (i:=1) q2 rfl
    have z0:W1.frozen? ⟨w.heap.size+1,0,none⟩=false:=frozM q2
    have z1:W1.frozen? ⟨w.heap.size+1,1,none⟩=false:=frozM q2
    have c3:=block_cell (i:=0) q3 rfl
    have z3:W1.frozen? ⟨w.heap.size+1+1,0,none⟩=false:=frozM q3
    have l2:w.heap.size+1<W1.heap.size:=(Array.getElem?_eq_some_iff.1 q2).1
    have l3:w.heap.size+1+1<W1.heap.size:=(Array.getElem?_eq_some_iff.1 q3).1
    have HRO:=hidQ hro.out
    clear hro q2 q3
    go_wp2
    have gA:W1.grownBy ((W1.setCell ⟨w.heap.size+1,0,none⟩ (.slice ai (D i).length ci)).setCell ⟨w.heap.size+1,1,none⟩ (.int .i64 (lo i))) (some (w.heap.size+1)):=grown_twoM (set_grown _ _ _ _) (set_grown _ _ _ _)
    have gB:=set_grown ((W1.setCell ⟨w.heap.size+1,0,none⟩ (.slice ai (D i).length ci)).setCell ⟨w.heap.size+1,1,none⟩ (.int .i64 (lo i))) (w.heap.size+1+1) 0 (.int .i64 0)
    have kA:((W1.setCell ⟨w.heap.size+1,0,none⟩ (.slice ai (D i).length ci)).setCell ⟨w.heap.size+1,1,none⟩ (.int .i64 (lo i))).heap[w.heap.size+1]?=some (.cells #[.slice ai (D i).length ci,.int .i64 (lo i)] 24 (0,0)):=by rw[set_block (set_block HRO.out.box)];rfl
    have kB:=(gA.block _ (Array.getElem?_eq_some_iff.1 HRO.out.err).1 (fun e=>by have:=Option.some.inj e;omega)).trans HRO.out.err
    have kC:=(gB.block _ (Array.getElem?_eq_some_iff.1 kA).1 (fun e=>by have:=Option.some.inj e;omega)).trans kA
    have kD:=set_block (i:=0) (u:=.int .i64 0) kB
    have sA:=gA.size
    have sB:=gB.size
    have hb1:=(HRO.out.bel.grown gA (by omega) (fun q hq=>by have:=Option.some.inj hq;omega)).grown gB (by omega) (fun q hq=>by have:=Option.some.inj hq;omega)
    have hc1:=(HRO.out.crf.put gA (by omega)).put gB (by omega)
    rw[HER.out.2 hil]
    exact row_done w.heap.size _ ai (D i).length ci (lo i) i _ rfl rfl rfl kC kD ⟨ai,ci,rfl,hc1.crs,hb1⟩
end Go.Proofs.Ytagaajlbkfkaiaa
/- Rows of moves: the walk of ref.RowOf. Made by genmq2.py. -/
namespace Go.Proofs.Ytagaajlbkfkaiaa
open Go.RowKit
set_option maxHeartbeats 8000000
set_option maxRecDepth 100000
theorem own_crsW {w:World} {B e:Nat} {v:Value} {C:List Cr} (h:w.ownsRow B e 5 v C.length (crossCells C)):CrsW w w.heap.size v C:=by
 have h0:=h
 have h1:=crs_own h (own_fewQ h)
 rcases h.2 with⟨rfl,h2⟩|⟨g,cap,cur,rfl,_,_,_⟩
 · exact Or.inl ⟨rfl,List.eq_nil_of_length_eq_zero h2⟩
 · by_cases hp:0<C.length
   · obtain⟨a,c,e,-,k⟩:=h1
     injection e with e1 e2 e3
     obtain⟨b,off,h3,h4,h5⟩:=k hp
     rw[<-e1]at h3
     rw[h3]
     exact Or.inr (Or.inr ⟨b,off,cap,rfl,h4,h5⟩)
   · have hz:C.length=0:=by omega
     exact Or.inr (Or.inl ⟨_,_,by rw[hz],List.eq_nil_of_length_eq_zero hz⟩)
structure CrG (w:World) (x y:Nat) (a:Option Addr) (c:Nat) (C:List Cr):Prop where
 crs:CrsW w w.heap.size (.slice a C.length c) C
 far:0<C.length->∀ ad,a=some ad->ad.block<x∨y<=ad.block
theorem CrG.up {w w':World} {x y:Nat} {a:Option Addr} {c:Nat} {C:List Cr} (h:CrG w x y a c C) (hb:Below w.heap.size w w'):CrG w' x y a c C:=⟨h.crs.up hb,h.far⟩
theorem CrG.put {w w':World} {x y g:Nat} {a:Option Addr} {c:Nat} {C:List Cr} (h:CrG w x y a c C) (hg:w.grownBy w' (some g)) (h1:x<=g) (h2:g<y):CrG w' x y a c C:=by
 refine⟨?_,h.far⟩
 by_cases hp:0<C.length
 · rcases h.crs with⟨_,e⟩|⟨ad,cap,e,e2⟩|⟨b,off,cap,e,hlt,hC⟩
   · rw[e]at hp;cases hp
   · rw[e2]at hp;cases hp
   · injection e with e1 e2 e3
     refine Or.inr (Or.inr ⟨b,off,cap,by rw[e1,e3],Nat.lt_of_lt_of_le hlt hg.size,fun i hi=>?_⟩)
     have hf:b<x∨y<=b:=h.far hp _ e1
     have hbk:=hg.block b hlt (fun e=>by have:=Option.some.inj e;omega)
     have hc:∀ j u,w.cell? ⟨b,j,none⟩=some u->w'.cell? ⟨b,j,none⟩=some u:=fun j u hu=>by
      simp only[World.cell?]at hu ⊢
      rw[hbk]
      exact hu
     obtain⟨q0,q1,q2,q3,q4⟩:=hC i hi
     exact⟨hc _ _ q0,hc _ _ q1,hc _ _ q2,hc _ _ q3,hc _ _ q4⟩
 · have hz:C=[]:=List.eq_nil_of_length_eq_zero (by omega)
   subst hz
   cases a with
   |none => 
    rcases h.crs with⟨e,_⟩|⟨ad,cap,e,_⟩|⟨b,off,cap,e,_,_⟩
    · exact Or.inl ⟨e,rfl⟩
    · cases e
    · cases e
   |some ad=>exact Or.inr (Or.inl ⟨ad,c,rfl,rfl⟩)
theorem own_crg {w:World} {B x y e:Nat} {a:Option Addr} {c:Nat} {C:List Cr} (h:w.ownsRow B e 5 (.slice a C.length c) C.length (crossCells C)) (hB:y<=B):CrG w x y a c C:=
 ⟨own_crsW h,fun hp ad e=>Or.inr ((own_crf h hB).far hp ad e)⟩
theorem res_row {W:World} {g:Nat} {a b:Value} {x y:Int} {tm:Array Value} (h:W.heap[g]?=some (.cells #[a,b] 24 (0,0))) (h2:tm[4]?=some (.pointer (some ⟨g,0,none⟩))) (h3:tm[5]?=some (.int .i64 x)) (h4:tm[6]?=some (.int .i64 y)):(results Try.f14 tm).run Try.prog W=.ok (.tuple #[.agg #[a,b],.int .i64 x,.int .i64 y]) W:=by
 have e0:W.cell? ⟨g,0,none⟩=some a:=block_cell h rfl
 have e1:W.cell? ⟨g,1,none⟩=some b:=block_cell h rfl
 simp[results,Try.results14,go_sem,h2,h3,h4,e0,e1]
theorem like_any {P:Program} {ops:Array Oper} {Q:Exit->Act->World->Prop} {md:Region.Mode} {S:World->Prop} {fuel:Nat} {l l':Array Bool} {a:Act} {w:World} (e:l=l') (h:wpAnyH P md ops Q S fuel l' a w):wpAnyH P md ops Q S fuel l a w:=e▸h
theorem rowOf_may (a:Option Addr) (c:Nat) (C:List Cr) (loops:Int) (mv:Value) (w:World) (hl:C.length<=maxLen) (hm:mayD C loops=false) (hC:CrsW w w.heap.size (.slice a C.length c) C):
    Calls Try.prog 14 #[.agg #[.slice a C.length c, .int .i64 loops], mv] w fun e w' => e = .returned (.tuple #[.agg #[.slice none 0 0, .int .i64 0], .int .i64 0, .int .i64 7]) ∧ Below w.heap.size w w' := by
 obtain⟨V,hV⟩:∃ V,(w.alloc (.cells #[.slice a C.length c,.int .i64 loops] 24)).alloc (.cells #[.slice none 0 0,.int .i64 0] 24)=V:=⟨_,rfl⟩
 have hB:Below w.heap.size w V:=by rw[<-hV];exact below2 _ _ _
 have hsV:V.heap.size=w.heap.size+2:=by rw[<-hV];simp
 have k0:V.heap[w.heap.size]?=some (.cells #[.slice a C.length c,.int .i64 loops] 24 (0,0)):=by rw[<-hV];exact alloc_old (alloc_at rfl)
 have k1:V.heap[w.heap.size+1]?=some (.cells #[.slice none 0 0,.int .i64 0] 24 (0,0)):=by rw[<-hV];exact alloc_at (by simp)
 have lv0:w.heap.size<V.heap.size:=by omega
 have v0:=block_cell (i:=0) (v:=.slice a C.length c) k0 rfl
 have v1:=block_cell (i:=1) (v:=.int .i64 loops) k0 rfl
 have HK0:=hidQ k0
 have HK1:=hidQ k1
 have HV:=hidQ hV
 have HB:=hidQ hB
 have HMY:=hidQ (fun W (hW:Below V.heap.size V W)=>may17_any (.slice a C.length c) C loops W (((hC.up hB).up hW).crs hl))
 rw[hm]at HMY
 clear hV hB k0 k1 hC hm hl
 go_enter Try.func14,Try.ntmps14
 go_upto_region 1 with(fail)
 rw[HV.out]
 go_upto_region 2 with(first
  | (go_at_call 31; refine (HMY.out _ (Below.refl _ _)).mono ?_; rintro e9 w3 ⟨rfl, hb3⟩
     have H3:=hidQ hb3
     have d0:=block_cell (i:=0) (v:=.slice a C.length c) ((hb3.block _ (by omega)).trans HK0.out) rfl
     have d1:=block_cell (i:=1) (v:=.int .i64 loops) ((hb3.block _ (by omega)).trans HK0.out) rfl
     have ld:=Nat.lt_of_lt_of_le lv0 hb3.size
     clear hb3))
 clear v0 v1 d0 d1 ld
 have q1:=(H3.out.block _ (by omega)).trans HK1.out
 have r0:=block_cell (i:=0) (v:=.slice none 0 0) q1 rfl
 have r1:=block_cell (i:=1) (v:=.int .i64 0) q1 rfl
 have f0:w3.frozen? ⟨w.heap.size+1,0,none⟩=false:=block_frozen q1
 have f1:w3.frozen? ⟨w.heap.size+1,1,none⟩=false:=block_frozen q1
 have lr:w.heap.size+1<w3.heap.size:=(Array.getElem?_eq_some_iff.1 q1).1
 have HQ:=hidQ q1
 clear q1
 go_wp2
 have hb:=HB.out.trans (H3.out.mono (by omega))
 have hg:=st2_grown w3 (w.heap.size+1) 0 (.slice none 0 0) (.int .i64 0)
 exact bodyPost_ret (res_row (set_block (set_block HQ.out)) rfl rfl rfl) rfl ⟨rfl,hb.grown hg hb.size (fun q hq=>by have:=Option.some.inj hq;omega)⟩
theorem rowOf_plane (a:Option Addr) (c:Nat) (C:List Cr) (loops:Int) (mv:Value) (w:World) (hl:C.length<=maxLen) (hm:mayD C loops=true) (hp:planarB C=false) (hC:CrsW w w.heap.size (.slice a C.length c) C):
    Calls Try.prog 14 #[.agg #[.slice a C.length c, .int .i64 loops], mv] w fun e w' => e = .returned (.tuple #[.agg #[.slice none 0 0, .int .i64 0], .int .i64 0, .int .i64 7]) ∧ Below w.heap.size w w' := by
 obtain⟨V,hV⟩:∃ V,(w.alloc (.cells #[.slice a C.length c,.int .i64 loops] 24)).alloc (.cells #[.slice none 0 0,.int .i64 0] 24)=V:=⟨_,rfl⟩
 have hB:Below w.heap.size w V:=by rw[<-hV];exact below2 _ _ _
 have hsV:V.heap.size=w.heap.size+2:=by rw[<-hV];simp
 have k0:V.heap[w.heap.size]?=some (.cells #[.slice a C.length c,.int .i64 loops] 24 (0,0)):=by rw[<-hV];exact alloc_old (alloc_at rfl)
 have k1:V.heap[w.heap.size+1]?=some (.cells #[.slice none 0 0,.int .i64 0] 24 (0,0)):=by rw[<-hV];exact alloc_at (by simp)
 have lv0:w.heap.size<V.heap.size:=by omega
 have v0:=block_cell (i:=0) (v:=.slice a C.length c) k0 rfl
 have v1:=block_cell (i:=1) (v:=.int .i64 loops) k0 rfl
 have HK0:=hidQ k0
 have HK1:=hidQ k1
 have HV:=hidQ hV
 have HB:=hidQ hB
 have HMY:=hidQ (fun W (hW:Below V.heap.size V W)=>may17_any (.slice a C.length c) C loops W (((hC.up hB).up hW).crs hl))
 have HPL:=hidQ (fun W (hW:Below V.heap.size V W)=>planarIs_any a c C loops W hm (((hC.up hB).up hW).crs hl))
 rw[hm]at HMY
 rw[hp]at HPL
 clear hV hB k0 k1 hC hm hl hp
 go_enter Try.func14,Try.ntmps14
 go_upto_region 1 with(fail)
 rw[HV.out]
 go_upto_region 2 with(first
  | (go_at_call 31; refine (HMY.out _ (Below.refl _ _)).mono ?_; rintro e9 w3 ⟨rfl, hb3⟩
     have H3:=hidQ hb3
     have d0:=block_cell (i:=0) (v:=.slice a C.length c) ((hb3.block _ (by omega)).trans HK0.out) rfl
     have d1:=block_cell (i:=1) (v:=.int .i64 loops) ((hb3.block _ (by omega)).trans HK0.out) rfl
     have ld:=Nat.lt_of_lt_of_le lv0 hb3.size
     clear hb3)
  | (go_at_call 32; refine (HPL.out _ H3.out).mono ?_; rintro e9 w4 ⟨rfl, hb4⟩
     have H4:=hidQ (H3.out.trans (hb4.mono H3.out.size))
     clear hb4 d0 d1 ld))
 clear v0 v1
 have q1:=(H4.out.block _ (by omega)).trans HK1.out
 have r0:=block_cell (i:=0) (v:=.slice none 0 0) q1 rfl
 have r1:=block_cell (i:=1) (v:=.int .i64 0) q1 rfl
 have f0:w4.frozen? ⟨w.heap.size+1,0,none⟩=false:=block_frozen q1
 have f1:w4.frozen? ⟨w.heap.size+1,1,none⟩=false:=block_frozen q1
 have lr:w.heap.size+1<w4.heap.size:=(Array.getElem?_eq_some_iff.1 q1).1
 have HQ:=hidQ q1
 clear q1
 go_wp2
 have hb:=HB.out.trans (H4.out.mono (by omega))
 have hg:=st2_grown w4 (w.heap.size+1) 0 (.slice none 0 0) (.int .i64 0)
 exact bodyPost_ret (res_row (set_block (set_block HQ.out)) rfl rfl rfl) rfl ⟨rfl,hb.grown hg hb.size (fun q hq=>by have:=Option.some.inj hq;omega)⟩
theorem rowOf_size (a:Option Addr) (c:Nat) (C:List Cr) (loops:Int) (ma:Option Addr) (L mc:Nat) (w:World) (hn:200<L) (hl:C.length<=maxLen) (hm:mayD C loops=true) (hp:planarB C=true) (hC:CrsW w w.heap.size (.slice a C.length c) C):
    Calls Try.prog 14 #[.agg #[.slice a C.length c, .int .i64 loops], .slice ma L mc] w fun e w' => e = .returned (.tuple #[.agg #[.slice none 0 0, .int .i64 0], .int .i64 0, .int .i64 2]) ∧ Below w.heap.size w w' := by
 obtain⟨V,hV⟩:∃ V,(w.alloc (.cells #[.slice a C.length c,.int .i64 loops] 24)).alloc (.cells #[.slice none 0 0,.int .i64 0] 24)=V:=⟨_,rfl⟩
 have hB:Below w.heap.size w V:=by rw[<-hV];exact below2 _ _ _
 have hsV:V.heap.size=w.heap.size+2:=by rw[<-hV];simp
 have k0:V.heap[w.heap.size]?=some (.cells #[.slice a C.length c,.int .i64 loops] 24 (0,0)):=by rw[<-hV];exact alloc_old (alloc_at rfl)
 have k1:V.heap[w.heap.size+1]?=some (.cells #[.slice none 0 0,.int .i64 0] 24 (0,0)):=by rw[<-hV];exact alloc_at (by simp)
 have lv0:w.heap.size<V.heap.size:=by omega
 have v0:=block_cell (i:=0) (v:=.slice a C.length c) k0 rfl
 have v1:=block_cell (i:=1) (v:=.int .i64 loops) k0 rfl
 have HK0:=hidQ k0
 have HK1:=hidQ k1
 have HV:=hidQ hV
 have HB:=hidQ hB
 have HMY:=hidQ (fun W (hW:Below V.heap.size V W)=>may17_any (.slice a C.length c) C loops W (((hC.up hB).up hW).crs hl))
 have HPL:=hidQ (fun W (hW:Below V.heap.size V W)=>planarIs_any a c C loops W hm (((hC.up hB).up hW).crs hl))
 rw[hm]at HMY
 rw[hp]at HPL
 have hle:decide ((200:Int)<(L:Int))=true:=decide_eq_true (by omega)
 clear hV hB k0 k1 hC hm hl hp
 go_enter Try.func14,Try.ntmps14
 go_upto_region 1 with(fail)
 rw[HV.out]
 go_upto_region 4 with(first
  | (go_at_call 31; refine (HMY.out _ (Below.refl _ _)).mono ?_; rintro e9 w3 ⟨rfl, hb3⟩
     have H3:=hidQ hb3
     have d0:=block_cell (i:=0) (v:=.slice a C.length c) ((hb3.block _ (by omega)).trans HK0.out) rfl
     have d1:=block_cell (i:=1) (v:=.int .i64 loops) ((hb3.block _ (by omega)).trans HK0.out) rfl
     have ld:=Nat.lt_of_lt_of_le lv0 hb3.size
     clear hb3)
  | (go_at_call 32; refine (HPL.out _ H3.out).mono ?_; rintro e9 w4 ⟨rfl, hb4⟩
     have H4:=hidQ (H3.out.trans (hb4.mono H3.out.size))
     clear hb4 d0 d1 ld))
 clear v0 v1
 have q1:=(H4.out.block _ (by omega)).trans HK1.out
 have r0:=block_cell (i:=0) (v:=.slice none 0 0) q1 rfl
 have r1:=block_cell (i:=1) (v:=.int .i64 0) q1 rfl
 have f0:w4.frozen? ⟨w.heap.size+1,0,none⟩=false:=block_frozen q1
 have f1:w4.frozen? ⟨w.heap.size+1,1,none⟩=false:=block_frozen q1
 have lr:w.heap.size+1<w4.heap.size:=(Array.getElem?_eq_some_iff.1 q1).1
 have HQ:=hidQ q1
 clear q1
 go_wp2
 have hb:=HB.out.trans (H4.out.mono (by omega))
 have hg:=st2_grown w4 (w.heap.size+1) 0 (.slice none 0 0) (.int .i64 0)
 exact bodyPost_ret (res_row (set_block (set_block HQ.out)) rfl rfl rfl) rfl ⟨rfl,hb.grown hg hb.size (fun q hq=>by have:=Option.some.inj hq;omega)⟩
structure RwAt (w W:World) (a:Option Addr) (c:Nat) (C:List Cr) (lo:Int):Prop where
 bel:Below w.heap.size w W
 size:w.heap.size+2<=W.heap.size
 box:W.heap[w.heap.size]?=some (.cells #[.slice a C.length c,.int .i64 lo] 24 (0,0))
 res:W.heap[w.heap.size+1]?=some (.cells #[.slice none 0 0,.int .i64 0] 24 (0,0))
 crg:CrG W w.heap.size (w.heap.size+2) a c C
 few:C.length<=maxLen
structure DpAt (V W:World) (D:List Cr) (a2:Option Addr) (c2 g:Nat):Prop where
 b:W.heap[g]?=some (.cells #[.slice none 0 0,.int .i64 0] 24 (0,0))
 own:W.ownsRow V.heap.size 71 5 (.slice a2 D.length c2) D.length (crossCells D)
 ne:(Value.slice a2 D.length c2).ownBlock≠some g
 l:V.heap.size<=g
 bel:Below V.heap.size V W
theorem rowOf_go (a:Option Addr) (c:Nat) (C:List Cr) (loops:Int) (ma:Option Addr) (mc:Nat) (ms:List Mo) (w:World) (D:Nat->List Cr) (lo ce:Nat->Int) (n:Nat) (hD0:D 0=C) (hlo0:lo 0=loops) (hms:ms.length<=200) (hn:n<=ms.length) (hok:∀ i,i<n->ce i=0) (hst:n<ms.length->ce n≠0)
    (hl:C.length<=maxLen) (hm:mayD C loops=true) (hp:planarB C=true) (hC:CrsW w w.heap.size (.slice a C.length c) C) (hM:Mvs w w.heap.size (.slice ma ms.length mc) ms)
    (hW:∀ i,i<=n->i<ms.length->(D i).length<=maxLen->∀ a cap W,CrsW W W.heap.size (.slice a (D i).length cap) (D i)->Calls Try.prog 11 #[.agg #[.slice a (D i).length cap,.int .i64 (lo i)],(ms.getD i Mo.none).val] W fun e w'=>∃ a2 c2,e=.returned (.tuple #[.agg #[.slice a2 (D (i+1)).length c2,.int .i64 (lo (i+1))],.int .i64 (ce i)])/\w'.ownsRow W.heap.size 71 5 (.slice a2 (D (i+1)).length c2) (D (i+1)).length (crossCells (D (i+1)))/\Below W.heap.size W w'):
    Calls Try.prog 14 #[.agg #[.slice a C.length c, .int .i64 loops], .slice ma ms.length mc] w fun e w' => ∃ a2 c2, e = .returned (.tuple #[.agg #[.slice a2 (D n).length c2, .int .i64 (lo n)], .int .i64 n, .int .i64 (if n < ms.length then ce n else 0)]) ∧ Crs w' w'.heap.size (.slice a2 (D n).length c2) (D n) ∧ Below w.heap.size w w' := by
 have HW:=hidQ hW
 have HM:=hidQ hM
 have HOK:=hidQ hok
 have HST:=hidQ hst
 have HD0:=hidQ hD0
 have HLO0:=hidQ hlo0
 have HC:=hidQ hC
 have HFEW:=hidQ hl
 obtain⟨len,hlen⟩:∃ len,ms.length=len:=⟨_,rfl⟩
 have HLEN:=hidQ hlen
 rw[hlen]at hms hn
 rw[hlen]
 obtain⟨er,her⟩:∃ er,(if n<len then ce n else 0)=er:=⟨_,rfl⟩
 have HER:Hid ((n<len->er=ce n)/\(¬ n<len->er=0)):=⟨fun h=>by rw[<-her,if_pos h],fun h=>by rw[<-her,if_neg h]⟩
 rw[her]
 obtain⟨V,hV⟩:∃ V,(w.alloc (.cells #[.slice a C.length c,.int .i64 loops] 24)).alloc (.cells #[.slice none 0 0,.int .i64 0] 24)=V:=⟨_,rfl⟩
 have hB:Below w.heap.size w V:=by rw[<-hV];exact below2 _ _ _
 have hsV:V.heap.size=w.heap.size+2:=by rw[<-hV];simp
 have k0:V.heap[w.heap.size]?=some (.cells #[.slice a C.length c,.int .i64 loops] 24 (0,0)):=by rw[<-hV];exact alloc_old (alloc_at rfl)
 have k1:V.heap[w.heap.size+1]?=some (.cells #[.slice none 0 0,.int .i64 0] 24 (0,0)):=by rw[<-hV];exact alloc_at (by simp)
 have lv0:w.heap.size<V.heap.size:=by omega
 have v0:=block_cell (i:=0) (v:=.slice a C.length c) k0 rfl
 have v1:=block_cell (i:=1) (v:=.int .i64 loops) k0 rfl
 have HK0:=hidQ k0
 have HK1:=hidQ k1
 have HV:=hidQ hV
 have HB:=hidQ hB
 have HMY:=hidQ (fun W (hW:Below V.heap.size V W)=>may17_any (.slice a C.length c) C loops W (((hC.up hB).up hW).crs hl))
 have HPL:=hidQ (fun W (hW:Below V.heap.size V W)=>planarIs_any a c C loops W hm (((hC.up hB).up hW).crs hl))
 rw[hm]at HMY
 rw[hp]at HPL
 have hle:decide ((200:Int)<(len:Int))=false:=decide_eq_false (by omega)
 clear her hV hB k0 k1 hC hm hl hp hW hM hok hst hD0 hlo0 hlen
 go_enter Try.func14,Try.ntmps14
 go_upto_region 1 with(fail)
 rw[HV.out]
 go_upto_region 5 with(first
  | (go_at_call 31; refine (HMY.out _ (Below.refl _ _)).mono ?_; rintro e9 w3 ⟨rfl, hb3⟩
     have H3:=hidQ hb3
     have d0:=block_cell (i:=0) (v:=.slice a C.length c) ((hb3.block _ (by omega)).trans HK0.out) rfl
     have d1:=block_cell (i:=1) (v:=.int .i64 loops) ((hb3.block _ (by omega)).trans HK0.out) rfl
     have ld:=Nat.lt_of_lt_of_le lv0 hb3.size
     clear hb3)
  | (go_at_call 32; refine (HPL.out _ H3.out).mono ?_; rintro e9 w4 ⟨rfl, hb4⟩
     have H4:=hidQ (H3.out.trans (hb4.mono H3.out.size))
     clear hb4 d0 d1 ld))
 clear v0 v1
 have HRO:Hid (RwAt w w4 a c (D 0) (lo 0)):=(by
  rw[HD0.out,HLO0.out]
  have hb4:=HB.out.trans (H4.out.mono (by omega))
  refine⟨hb4,by have:=H4.out.size;omega,(H4.out.block _ (by omega)).trans HK0.out,(H4.out.block _ (by omega)).trans HK1.out,⟨HC.out.up hb4,fun hp ad e=>?_⟩,HFEW.out⟩
  obtain⟨a',c',e1,-,k⟩:=HC.out.crs HFEW.out
  injection e1 with e2 e3 e4
  obtain⟨b,off,e5,hb,-⟩:=k hp
  rw[<-e2,e]at e5
  have e6:=Option.some.inj e5
  subst e6
  exact Or.inl hb)
 clear HMY HPL H3 H4 HK0 HK1 HV HB hsV lv0 HC HFEW
 go_wp2
 go_loopw [7] (fun v7 wr=>∃ (i:Nat) (ai:Option Addr) (ci:Nat),i<=n/\v7=.int .i64 (i:Nat)/\Hid (RwAt w wr ai ci (D i) (lo i))) (fun v7 _=>n+1-(intOf v7).toNat)
 case atStart=>exact⟨0,a,c,Nat.zero_le _,rfl,HRO⟩
 case round=>
  clear HRO
  rename World=>W1
  obtain⟨i,ai,ci,hi,rfl,hro⟩:=hrel
  by_cases hil:i<len
  · have hii:(i:Int)<(len:Int):=by omega
    have hii0:(0:Int)<=(i:Int):=by omega
    have hadd:IntKind.i64.wrap ((i:Int)+1)=(i:Int)+1:=IntWalk.i64_in _ (by omega)
    obtain⟨m,hm⟩:∃ m,ms.getD i Mo.none=m:=⟨_,rfl⟩
    have HGO:=hidQ (HW.out i hi (by rw[HLEN.out];exact hil) hro.out.few)
    have HMA:=HM.out
    obtain⟨ma',mc',em,hmm,hmo⟩:=HMA
    injection em with em1 em2 em3
    obtain⟨mb,moff,em4,hmb,hmat⟩:=hmo (by rw[HLEN.out];omega)
    rw[<-em1]at em4
    have hcm:=(hmat.on hro.out.bel hmb) i (by rw[HLEN.out];exact hil)
    rw[hm]at hcm HGO
    obtain⟨mk,mx,my,mu,mub,mv,mvb,mo⟩:=m
    dsimp only at hcm
    have HG:=hidQ hcm
    have lmb:mb<W1.heap.size:=Nat.lt_of_lt_of_le hmb (by have:=hro.out.size;omega)
    have HM2:=hidQ HM.out
    unfold Mo.val at HGO
    clear em1 em2 em3 hmo hmat hm HM hmm hcm
    subst em4
    have HR:=hidQ hro.out
    have hs1:=hro.out.size
    have HSV:Hid (∀ W,Below W1.heap.size W1 W->(fun X:World=>X.cell? ⟨w.heap.size,0,none⟩=some (.slice ai (D i).length ci)/\X.cell? ⟨w.heap.size,1,none⟩=some (.int .i64 (lo i))/\X.cell? ⟨mb,moff+i*8,none⟩=some (.int .i64 mk)/\X.cell? ⟨mb,moff+i*8+1,none⟩=some (.int .i64 mx)/\X.cell? ⟨mb,moff+i*8+2,none⟩=some (.int .i64 my)/\X.cell? ⟨mb,moff+i*8+3,none⟩=some (.int .i64 mu)/\X.cell? ⟨mb,moff+i*8+4,none⟩=some (.bool mub)/\X.cell? ⟨mb,moff+i*8+5,none⟩=some (.int .i64 mv)/\X.cell? ⟨mb,moff+i*8+6,none⟩=some (.bool mvb)/\X.cell? ⟨mb,moff+i*8+7,none⟩=some (.bool mo)) W):=fun W hW=>by
     have k0:=(hW.block _ (by omega)).trans HR.out.box
     obtain⟨g0,g1,g2,g3,g4,g5,g6,g7⟩:=HG.out
     exact⟨block_cell k0 rfl,block_cell k0 rfl,bcell hW lmb g0,bcell hW lmb g1,bcell hW lmb g2,bcell hW lmb g3,bcell hW lmb g4,bcell hW lmb g5,bcell hW lmb g6,bcell hW lmb g7⟩
    have HDV:Hid (Below W1.heap.size W1 W1.drew):=(Below.refl _ _).drew
    clear hro HG
    go_upto_region 8 with(fail)
    apply cut_one
    case h=>
     intro key
     refine rhd HSV HDV.out (fun hHeld=>?_)
     refine tk 0 (h:=?_)
     refine tk 1 (h:=?_)
     refine tk 2 (h:=?_)
     refine tk 3 (h:=?_)
     refine tk 4 (h:=?_)
     try simp only[Act.put]
     clear hHeld
     refine rd2 5 9 (fun K hK=>?_) (fun K hK=>?_)
     · go_simp
       go_wp2_with (go_at_call 11;refine(HGO.out ai ci _ (HR.out.crg.crs.up HDV.out)).mono ?_;rintro e9 w2 ⟨a2,c2,rfl,ho2,hb2⟩)
       have HO2:=hidQ ho2
       have HB2:=hidQ (HDV.out.trans (hb2.mono HDV.out.size))
       clear ho2 hb2
       refine hK.out _ _ (HSV.out _ HB2.out) (fun hHeld=>?_)
       clear hK K
       refine tk 6 (h:=?_)
       refine tk 7 (h:=?_)
       refine tk 8 (h:=?_)
       try simp only[Act.put]
       clear hHeld
       refine rd1 9 (fun K hK=>?_)
       have HB3:=hidQ (HB2.out.alloc HB2.out.size (.cells #[.slice none 0 0,.int .i64 0] 24))
       have HFN:Hid (DpAt W1 (w2.alloc (.cells #[.slice none 0 0,.int .i64 0] 24)) (D (i+1)) a2 c2 w2.heap.size):=⟨alloc_at rfl,HO2.out.alloc _,fun e=>by have h1:=(HO2.out.lt _ e).2;omega,HB2.out.size,HB3.out⟩
       go_simp
       refine hK.out _ _ (HSV.out _ HB3.out) (fun hHeld=>?_)
       clear hK K
       try simp only[Act.put]
       refine like_any (l':=#[true,true,true,true,true,true,true,true,true,true,false,false]) (by kernel_rfl) ?_
       clear hHeld
       revert HFN
       generalize w2.alloc (.cells #[.slice none 0 0,.int .i64 0] 24)=Wz
       generalize w2.heap.size=g5
       generalize a2=aD
       generalize c2=cD
       revert Wz g5 aD cD
       exact key.out
     · have HB4:=hidQ (HDV.out.alloc HDV.out.size (.cells #[.slice none 0 0,.int .i64 0] 24))
       have HG4:Hid (((W1.drew).alloc (.cells #[.slice none 0 0,.int .i64 0] 24)).heap[W1.heap.size]?=some (.cells #[.slice none 0 0,.int .i64 0] 24 (0,0))):=alloc_at (by simp)
       go_simp
       refine hK.out _ _ (HSV.out _ HB4.out) (fun hHeld=>?_)
       clear hK K
       try simp only[Act.put]
       clear hHeld
       refine rd1 5 (fun K hK=>?_)
       go_simp
       go_wp2_with (go_at_call 11;refine(HGO.out ai ci _ (HR.out.crg.crs.up HB4.out)).mono ?_;rintro e9 w2 ⟨a2,c2,rfl,ho2,hb2⟩)
       have HB2:=hidQ (HB4.out.trans (hb2.mono HB4.out.size))
       have hq:=(hb2.block _ (Array.getElem?_eq_some_iff.1 HG4.out).1).trans HG4.out
       have HFN:Hid (DpAt W1 w2 (D (i+1)) a2 c2 W1.heap.size):=⟨hq,own_low ho2 HB4.out.size,fun e=>by have h1:=(ho2.lt _ e).1;have h2:=(Array.getElem?_eq_some_iff.1 HG4.out).1;(try simp at h1 h2);omega,Nat.le_refl _,HB2.out⟩
       clear hq ho2 hb2
       refine hK.out _ _ (HSV.out _ HB2.out) (fun hHeld=>?_)
       clear hK K
       refine tk 6 (h:=?_)
       refine tk 7 (h:=?_)
       refine tk 8 (h:=?_)
       try simp only[Act.put]
       refine like_any (l':=#[true,true,true,true,true,true,true,true,true,true,false,false]) (by kernel_rfl) ?_
       clear hHeld
       exact key.out _ _ _ _ HFN
    intro Wz g5 aD cD HZ
    have hHeld:=HSV.out _ HZ.out.bel
    have r0:Wz.cell? ⟨g5,0,none⟩=some (.slice none 0 0):=block_cell HZ.out.b rfl
    have r1:Wz.cell? ⟨g5,1,none⟩=some (.int .i64 0):=block_cell HZ.out.b rfl
    have f0:Wz.frozen? ⟨g5,0,none⟩=false:=block_frozen HZ.out.b
    have f1:Wz.frozen? ⟨g5,1,none⟩=false:=block_frozen HZ.out.b
    have lg:g5<Wz.heap.size:=(Array.getElem?_eq_some_iff.1 HZ.out.b).1
    obtain⟨Y,hY⟩:∃ Y,(Wz.setCell ⟨g5,0,none⟩ (.slice aD (D (i+1)).length cD)).setCell ⟨g5,1,none⟩ (.int .i64 (lo (i+1)))=Y:=⟨_,rfl⟩
    have HY:=hidQ hY
    have hgY:Wz.grownBy Y (some g5):=by rw[<-hY];exact st2_grown _ _ _ _ _
    have hKY:Y.heap[g5]?=some (.cells #[.slice aD (D (i+1)).length cD,.int .i64 (lo (i+1))] 24 (0,0)):=by rw[<-hY,set_block (set_block HZ.out.b)];rfl
    have HOY:=hidQ (HZ.out.own.kept hgY (Or.inr HZ.out.ne))
    have HBY:=hidQ (HZ.out.bel.grown hgY HZ.out.bel.size (fun q hq=>by have:=Option.some.inj hq;have:=HZ.out.l;omega))
    have lgY:g5<Y.heap.size:=Nat.lt_of_lt_of_le lg hgY.size
    have HG5:=hidQ HZ.out.l
    have HKY:=hidQ hKY
    clear hY hgY hKY
    refine rd1 10 (fun K hK=>?_)
    go_simp
    rw[HY.out]
    refine hK.out _ _ (HSV.out _ HBY.out) (fun hHeld=>?_)
    clear hK K r0 r1 f0 f1 lg
    refine tk 11 (h:=?_)
    try simp only[Act.put]
    refine wpAnyH_done (by kernel_rfl) ?_ _
    clear hHeld HSV HDV
    have hsY:=HBY.out.size
    have kb:=(HBY.out.block _ (by omega)).trans HR.out.box
    have kr:=(HBY.out.block _ (by omega)).trans HR.out.res
    have hbel:=HR.out.bel.trans (HBY.out.mono (by omega))
    by_cases hce:ce i=0
    · have hc0:(ce i != 0)=false:=by rw[hce];rfl
      have HCE:=hidQ hce
      have hin:i<n:=by
       rcases Nat.lt_or_ge i n with q|q
       · exact q
       · have hq:i=n:=by omega
         exact absurd (hq▸HCE.out) (HST.out (by rw[HLEN.out];omega))
      clear hce
      have r0:Y.cell? ⟨g5,0,none⟩=some (.slice aD (D (i+1)).length cD):=block_cell HKY.out rfl
      have r1:Y.cell? ⟨g5,1,none⟩=some (.int .i64 (lo (i+1))):=block_cell HKY.out rfl
      have c0:Y.cell? ⟨w.heap.size,0,none⟩=some (.slice ai (D i).length ci):=block_cell kb rfl
      have c1:Y.cell? ⟨w.heap.size,1,none⟩=some (.int .i64 (lo i)):=block_cell kb rfl
      have z0:Y.frozen? ⟨w.heap.size,0,none⟩=false:=block_frozen kb
      have z1:Y.frozen? ⟨w.heap.size,1,none⟩=false:=block_frozen kb
      have l0:w.heap.size<Y.heap.size:=by omega
      have hg:=st2_grown Y w.heap.size 0 (.slice aD (D (i+1)).length cD) (.int .i64 (lo (i+1)))
      have HRZ:Hid (RwAt w ((Y.setCell ⟨w.heap.size,0,none⟩ (.slice aD (D (i+1)).length cD)).setCell ⟨w.heap.size,1,none⟩ (.int .i64 (lo (i+1)))) aD cD (D (i+1)) (lo (i+1))):=⟨hbel.grown hg (by omega) (fun q hq=>by have:=Option.some.inj hq;omega),Nat.le_trans (by omega) hg.size,by rw[set_block (set_block kb)];rfl,(hg.block _ (by omega) (fun e=>by have:=Option.some.inj e;omega)).trans kr,(own_crg HOY.out hs1).put hg (by omega) (by omega),own_fewQ HOY.out⟩
      clear hg kb kr hbel
      go_wp2
      go_roundw
      all_goals first
       |(simp only[intOf];omega)
       |exact⟨i+1,aD,cD,by omega,by go_num,HRZ⟩
    · have hc0:(ce i != 0)=true:=by simpa using hce
      have HIN:i=n:=by
       rcases Nat.lt_or_ge i n with q|q
       · exact absurd (HOK.out i q) hce
       · omega
      have HCR:=hidQ (HR.out.crg.up HBY.out)
      have HER2:=hidQ (HER.out.1 (HIN▸hil))
      clear hce
      subst HIN
      have c0:Y.cell? ⟨w.heap.size,0,none⟩=some (.slice ai (D i).length ci):=block_cell kb rfl
      have c1:Y.cell? ⟨w.heap.size,1,none⟩=some (.int .i64 (lo i)):=block_cell kb rfl
      have x0:Y.cell? ⟨w.heap.size+1,0,none⟩=some (.slice none 0 0):=block_cell kr rfl
      have x1:Y.cell? ⟨w.heap.size+1,1,none⟩=some (.int .i64 0):=block_cell kr rfl
      have z0:Y.frozen? ⟨w.heap.size+1,0,none⟩=false:=block_frozen kr
      have z1:Y.frozen? ⟨w.heap.size+1,1,none⟩=false:=block_frozen kr
      have l0:w.heap.size<Y.heap.size:=(Array.getElem?_eq_some_iff.1 kb).1
      have l1:w.heap.size+1<Y.heap.size:=(Array.getElem?_eq_some_iff.1 kr).1
      go_wp2
      have hg:=st2_grown Y (w.heap.size+1) 0 (.slice ai (D i).length ci) (.int .i64 (lo i))
      have hcr:=(HCR.out.put hg (by omega) (by omega)).crs.crs HR.out.few
      have hbb:=hbel.grown hg (by omega) (fun q hq=>by have:=Option.some.inj hq;omega)
      refine bodyPost_ret (res_row (set_block (set_block kr)) rfl rfl rfl) rfl ?_
      rw[HER2.out]
      exact⟨ai,ci,rfl,hcr,hbb⟩
  · obtain rfl:i=n:=by omega
    have hs1:=hro.out.size
    have HRO:=hidQ hro.out
    clear hro
    have c0:W1.cell? ⟨w.heap.size,0,none⟩=some (.slice ai (D i).length ci):=block_cell HRO.out.box rfl
    have c1:W1.cell? ⟨w.heap.size,1,none⟩=some (.int .i64 (lo i)):=block_cell HRO.out.box rfl
    have x0:W1.cell? ⟨w.heap.size+1,0,none⟩=some (.slice none 0 0):=block_cell HRO.out.res rfl
    have x1:W1.cell? ⟨w.heap.size+1,1,none⟩=some (.int .i64 0):=block_cell HRO.out.res rfl
    have z0:W1.frozen? ⟨w.heap.size+1,0,none⟩=false:=block_frozen HRO.out.res
    have z1:W1.frozen? ⟨w.heap.size+1,1,none⟩=false:=block_frozen HRO.out.res
    have l0:w.heap.size<W1.heap.size:=(Array.getElem?_eq_some_iff.1 HRO.out.box).1
    have l1:w.heap.size+1<W1.heap.size:=(Array.getElem?_eq_some_iff.1 HRO.out.res).1
    go_wp2
    have hg:=st2_grown W1 (w.heap.size+1) 0 (.slice ai (D i).length ci) (.int .i64 (lo i))
    have hcr:=(HRO.out.crg.put hg (by omega) (by omega)).crs.crs HRO.out.few
    have hbb:=HRO.out.bel.grown hg (by omega) (fun q hq=>by have:=Option.some.inj hq;omega)
    refine bodyPost_ret (res_row (set_block (set_block HRO.out.res)) rfl rfl rfl) rfl ?_
    rw[HER.out.2 hil]
    have hlen:len=i:=by omega
    subst hlen
    exact⟨ai,ci,rfl,hcr,hbb⟩
end Go.Proofs.Ytagaajlbkfkaiaa
