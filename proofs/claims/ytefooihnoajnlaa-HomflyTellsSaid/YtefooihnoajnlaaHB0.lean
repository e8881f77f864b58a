/- Terms of two variables told as numbers: x^X z^Z is 1000 X + Z; such pairs as keys of a map; maps from them to numbers. -/
import Derived.Test.YtefooihnoajnlaaPA10P
import Derived.Test.YtefooihnoajnlaaH6P
import Derived.Test.YtefooihnoajnlaaW2P
import Derived.DeepKeys4
import Derived.WideKeyEntry
namespace Go.Proofs.Ytefooihnoajnlaa.Poly
open Go.RowKit Go.Maps
theorem hidH {P:Prop} (h:P):Hid P:=h
def dx (e:Int):Int:=(e+500) / 1000
def dz (e:Int):Int:=e-1000*((e+500) / 1000)
theorem dxz (e:Int):e=1000*dx e+dz e /\ -500<=dz e/\dz e<500:=by unfold dx dz;omega
theorem dx_of (x:Int) {z:Int} (h1 : -500<=z) (h2:z<500):dx (1000*x+z)=x/\dz (1000*x+z)=z:=by unfold dx dz;omega
theorem dxz_inj {e d:Int} (h1:dx e=dx d) (h2:dz e=dz d):e=d:=by
 have:=(dxz e).1
 have:=(dxz d).1
 omega
def Inb (K:Nat) (e:Int):Prop := -(K:Int)<=dx e/\dx e<=K /\ -(K:Int)<=dz e/\dz e<=K
theorem Inb.mono {K L:Nat} {e:Int} (h:Inb K e) (hl:K<=L):Inb L e:=by
 obtain⟨h1,h2,h3,h4⟩:=h
 exact⟨by omega,by omega,by omega,by omega⟩
def Rg (e:Int):Prop := -400000<=e/\e<=400000
theorem Inb.rg {K:Nat} {e:Int} (h:Inb K e) (hl:K<=300):Rg e:=by
 obtain⟨h1,h2,h3,h4⟩:=h
 have:=(dxz e).1
 exact⟨by omega,by omega⟩
theorem Inb.plus {K:Nat} {e X Z:Int} (h:Inb K e) {L:Nat} (hX : -(L:Int)<=X/\X<=L) (hZ : -(L:Int)<=Z/\Z<=L) (hl:K+L<=400):Inb (K+L) (e+(1000*X+Z))/\dx (e+(1000*X+Z))=dx e+X/\dz (e+(1000*X+Z))=dz e+Z:=by
 obtain⟨h1,h2,h3,h4⟩:=h
 have he:=(dxz e).1
 have e2:e+(1000*X+Z)=1000*(dx e+X)+(dz e+Z):=by omega
 have:=dx_of (dx e+X) (z:=dz e+Z) (by omega) (by omega)
 rw[<-e2]at this
 unfold Inb
 rw[this.1,this.2]
 exact⟨⟨by omega,by omega,by omega,by omega⟩,rfl,rfl⟩
def prV (e:Int):Value:=.agg #[.int .i64 (dx e),.int .i64 (dz e)]
def klP (e:Int):Lit:=.string (keyBytes [.int .i64 (dx e),.int .i64 (dz e)])
theorem prV_inj {e d:Int} (h:prV e=prV d):e=d:=by
 unfold prV at h
 simp only[Value.agg.injEq,Array.mk.injEq,List.cons.injEq,Value.int.injEq,and_true,true_and]at h
 exact dxz_inj h.1 h.2
theorem lawP:Keyed Try.prog 74:=Keyed.of_law (deep_law_laid (by kernel_rfl) (m:=5) (by decide) (by decide +kernel) (by kernel_rfl) (by kernel_rfl))
theorem keyP {e:Int} (h:Rg e):keyOf Try.prog 74 (prV e)=some (klP e):=by
 have hu:=Try.underlying74
 have ht:Try.prog.keyType 74=true:=by kernel_rfl
 have hc:Try.prog.cellsOf 74=2:=by kernel_rfl
 have hc3:Try.prog.cellsOf 3=1:=by kernel_rfl
 have hi:Try.prog.underlying 3=some (.int .i64):=Try.underlying3
 have hpos:0<Try.prog.types.size:=by decide +kernel
 obtain⟨m,hm⟩:∃ m,Try.prog.types.size=m+1:=⟨Try.prog.types.size - 1,by omega⟩
 have hd:=(dxz e).1
 have hd2:=(dxz e).2
 have w1:(Lit.int .i64 (dx e)).wf=true:=WalkArith.wf_i64 (by unfold Rg at h;omega)
 have w2:(Lit.int .i64 (dz e)).wf=true:=WalkArith.wf_i64 (by omega)
 unfold prV klP keyOf
 simp only[hu]
 rw[if_pos (by simp[ht,Value.formed,hu,hc]),hm]
 unfold Program.keyLits
 simp only[hu,Value.cells]
 simp[hc,hc3,Program.keyLits,hi,w1,w2]
theorem klP_inj {e d:Int} (he:Rg e) (hd:Rg d) (h:klP e=klP d):e=d:=prV_inj (lawP.inj (keyP he) (h▸keyP hd))
theorem zeroP (w:World):(zeroValue 3).run Try.prog w=.ok (.int .i64 0) w:=by kernel_rfl
def co (D:DataW Unit) (e:Int):Int:=
 match D.atKey (klP e) (.lit (.int .i64 0)) with
 |.lit (.int _ c)=>c
 |_=>0
theorem co_at {D:DataW Unit} {e c:Int} (h:∀ zd,D.atKey (klP e) zd=.lit (.int .i64 c)):co D e=c:=by unfold co;rw[h]
theorem co_none {D:DataW Unit} {e:Int} (h:Maps.has D (klP e)=false):co D e=0:=by unfold co;rw[atKey_of_not_has h]
structure PrD (W:World) (b n B K:Nat) (f:Int->Int) (D:DataW Unit):Prop where
 own:W.ownsMap Try.prog 74 (plainElem Try.prog 3) b n D
 keys:∀ kl,Maps.has D kl=true->∃ e,Inb K e/\kl=klP e
 val:∀ e,Rg e->co D e=f e
 sup:∀ e,¬ Inb K e->f e=0
 bd:∀ e,(f e).natAbs<=B
theorem PrD.kept {W W':World} {b n B K:Nat} {f:Int->Int} {D:DataW Unit} {row:Option Nat} (h:PrD W b n B K f D) (hg:W.grownBy W' row) (hne:some b≠row):PrD W' b n B K f D:=⟨h.own.kept hg hne,h.keys,h.val,h.sup,h.bd⟩
theorem PrD.lt {W:World} {b n B K:Nat} {f:Int->Int} {D:DataW Unit} (h:PrD W b n B K f D):b<W.heap.size:=h.own.lt
theorem PrD.mono {W:World} {b n n' B B' K K':Nat} {f:Int->Int} {D:DataW Unit} (h:PrD W b n B K f D) (hn:n<=n') (hB:B<=B') (hK:K<=K'):PrD W b n' B' K' f D:=
 ⟨h.own.mono hn,fun kl hk=>by obtain⟨e,h1,h2⟩:=h.keys kl hk;exact⟨e,h1.mono hK,h2⟩,h.val,fun e he=>h.sup e (fun q=>he (q.mono hK)),fun e=>Nat.le_trans (h.bd e) hB⟩
theorem PrD.congr {W:World} {b n B K:Nat} {f g:Int->Int} {D:DataW Unit} (h:PrD W b n B K f D) (e:∀ x,f x=g x):PrD W b n B K g D:=by
 have:f=g:=funext e
 rw[<-this]
 exact h
theorem PrD.made (W:World) (K:Nat):PrD (W.alloc (.map #[] 0)) W.heap.size 0 0 K (fun _=>0) (.map []):=
 ⟨World.ownsMap_made W _ _ _,(fun kl h=>by cases h),fun e _=>co_none rfl,fun _ _=>rfl,fun _=>Nat.le_refl _⟩
theorem PrD.look {W:World} {b n B K:Nat} {f:Int->Int} {D:DataW Unit} (h:PrD W b n B K f D) {e:Int} (he:Rg e):(Instr.lookup 45 (.map (some b)) (prV e) false).run Try.prog W=.ok (.int .i64 (f e)) W:=by
 obtain⟨v,ps,hrun,hv⟩:=h.own.lookup lawP Try.underlying45 (zeroP W) (plainElem_int Try.underlying3 (by decide)) (keyP he)
 obtain⟨c,rfl,hc,-⟩:=plainElem_int_inv Try.underlying3 hv
 have hc:=congrArg Prod.fst hc
 have hv:=h.val e he
 unfold co at hv
 rw[show D.atKey (klP e) (.lit (.int .i64 0))=.lit (.int .i64 c) from hc]at hv
 rw[hrun,<-hv]
theorem PrD.put {W : World} {b n B K : Nat} {f : Int → Int} {D : DataW Unit} (h : PrD W b n B K f D) {e : Int} (he : Inb K e) (hK : K ≤ 300) (hn : n < 4000000000000000000) (hB : B < 4000000000000000000) (c : Int) (hc : c.natAbs ≤ B) :
    ∃ w',(Instr.mapUpdate 45 (.map (some b)) (prV e) (.int .i64 c)).run Try.prog W=.ok () w'/\PrD w' b (n+1) B K (fun d=>if d=e then c else f d) (D.put (klP e) (.lit (.int .i64 c)))/\W.grownBy w' (some b):=by
 have hl:=keyP (he.rg hK)
 have hp:plainElem Try.prog 3 (.int .i64 c)=some ((.lit (.int .i64 c):DataW Unit),[]):=plainElem_int Try.underlying3 (WalkArith.wf_i64 ⟨by omega,by omega⟩)
 obtain⟨w',hrun,hown,hg⟩:=h.own.update lawP Try.underlying45 (show n<maxLen by unfold maxLen;omega) hl hp
 have im:=h.own.isMap
 have hk:=lawP.key hl
 refine⟨w',hrun,⟨hown,fun kl hkl=>?_,fun d hd=>?_,fun d hd=>?_,fun d=>?_⟩,hg⟩
 · by_cases q:kl=klP e
   · exact⟨e,he,q⟩
   · rw[has_put_other q]at hkl;exact h.keys kl hkl
 · show co _ d=if d=e then c else f d
   by_cases q:d=e
   · subst q
     rw[if_pos rfl]
     exact co_at (fun zd=>atKey_put_same im hk _ _)
   · rw[if_neg q,<-h.val d hd]
     have hne:klP d≠klP e:=fun h0=>q (klP_inj hd (he.rg hK) h0)
     unfold co
     rw[atKey_put_other hne]
 · show(if d=e then c else f d)=0
   rw[if_neg (show ¬ d=e from fun q=>hd (q▸he))]
   exact h.sup d hd
 · show(if d=e then c else f d).natAbs<=B
   split
   · exact hc
   · exact h.bd d
theorem setb_set (w:World) (b:Nat) (o p:Obj):Go.ChangeMaps.setBlock (Go.ChangeMaps.setBlock w b o) b p=Go.ChangeMaps.setBlock w b p:=by
 unfold Go.ChangeMaps.setBlock
 simp
theorem entry_put {W : World} {t k e : TypeId} {R : Value → Option (DataW Unit × List MemPlace)} {b : Nat} {es : Array MapEntry} {clock : Nat} (K : Go.WideMaps.KeyLaw Try.prog k) (ht : Try.prog.underlying t = some (.map k e)) {z : Value} (hz : ∀ u : World, (zeroValue e).run Try.prog u = .ok z u) (hb : W.heap[b]? = some (.map es clock)) (F : Go.WideElems.Fit Try.prog k R es clock)
    {key:Value} {kl:Lit} (hkey:keyOf Try.prog k key=some kl):∃ (v0:Value) (st:Int) (w1:World),(Instr.mapEntry t (.map (some b)) key).run Try.prog W=.ok (.tuple #[v0,.int .i64 st]) w1/\(Instr.lookup t (.map (some b)) key false).run Try.prog W=.ok v0 W/\(Instr.mapUpdate t (.map (some b)) key v0).run Try.prog W=.ok () w1:=by
 rcases K.find W hkey es.toList F.keys with⟨h1,h2⟩|⟨j,e0,h1,h2,h3⟩
 · refine⟨z,(clock:Nat),Go.ChangeMaps.setBlock W b (.map (es.push ⟨key,z,clock⟩) (clock+1)),?_,?_,?_⟩
   · simp[Instr.mapEntry,run_underlying ht,MapKept.run_getObj_map hb,K.check W false hkey,h1,hz,MapKept.run_setObj_map _ hb,Result.andThen,Go.ChangeMaps.setBlock,goInt]
   · simp[Instr.lookup,run_underlying ht,MapKept.run_getObj_map hb,K.check W _ hkey,h1,hz,Result.andThen]
   · simp[Instr.mapUpdate,run_underlying ht,MapKept.run_getObj_map hb,K.check W false hkey,h1,MapKept.run_setObj_map _ hb,Result.andThen,Go.ChangeMaps.setBlock]
 · have hj:es[j]?=some e0:=by simpa using h2
   have same:∀ g:MapEntry->MapEntry,g e0=e0->es.modify j g=es:=fun g hg=>by
    apply Array.ext'
    rw[Array.toList_modify,Go.ChangeMaps.modify_eq_set _ _ _ _ h2,hg]
    exact Go.WideElems.set_self _ _ _ h2
   have m1:=same (fun e=>{ e with key:=key }) (by rw[<-h3])
   have m2:=same (fun e'=>{ e' with key:=key,val:=e0.val }) (by rw[<-h3])
   refine⟨e0.val,(e0.born:Nat),Go.ChangeMaps.setBlock W b (.map es clock),?_,?_,?_⟩
   · simp[Instr.mapEntry,run_underlying ht,MapKept.run_getObj_map hb,K.check W false hkey,h1,hj,h3,K.stays W hkey,m1,MapKept.run_setObj_map _ hb,Result.andThen,Go.ChangeMaps.setBlock,goInt]
   · simp[Instr.lookup,run_underlying ht,MapKept.run_getObj_map hb,K.check W _ hkey,h1,Result.andThen]
   · simp[Instr.mapUpdate,run_underlying ht,MapKept.run_getObj_map hb,K.check W false hkey,h1,hj,h3,K.stays W hkey,m2,MapKept.run_setObj_map _ hb,Result.andThen,Go.ChangeMaps.setBlock]
set_option maxRecDepth 100000 in
theorem PrD.entry {W : World} {b n B K : Nat} {f : Int → Int} {D : DataW Unit} (h : PrD W b n B K f D) {e : Int} (he : Inb K e) (hK : K ≤ 300) (hn : n < 4000000000000000000) (hB : B < 4000000000000000000) :
    ∃ (v0:Value) (st:Nat) (w1:World),(Instr.mapEntry 45 (.map (some b)) (prV e)).run Try.prog W=.ok (.tuple #[v0,.int .i64 (st:Nat)]) w1/\W.grownBy w1 (some b)/\(Instr.lookup 45 (.map (some b)) (prV e) false).run Try.prog w1=.ok (.int .i64 (f e)) w1/\
     ∀ c:Int,c.natAbs<=B->∃ w',(Instr.entryStore 45 (.map (some b)) (.int .i64 (st:Nat)) (.int .i64 c)).run Try.prog w1=.ok () w'/\PrD w' b (n+1) B K (fun d=>if d=e then c else f d) (D.put (klP e) (.lit (.int .i64 c)))/\W.grownBy w' (some b):=by
 obtain⟨es,clock,hb,hF,-,-⟩:=h.own
 have hl:=keyP (he.rg hK)
 obtain⟨v0,st,es1,clock1,hE,hv0,hS⟩:=Go.WideElems.entry_then_store (w:=W) (deep_law_laid (by kernel_rfl) (m:=5) (by decide) (by decide +kernel) (by kernel_rfl) (by kernel_rfl)) Try.underlying45 (fun u=>zeroP u) hb hF hl
 have hput:∀ c:Int,c.natAbs<=B->∃ w',(Instr.entryStore 45 (.map (some b)) (.int .i64 (st:Nat)) (.int .i64 c)).run Try.prog (Go.ChangeMaps.setBlock W b (.map es1 clock1))=.ok () w'/\PrD w' b (n+1) B K (fun d=>if d=e then c else f d) (D.put (klP e) (.lit (.int .i64 c)))/\W.grownBy w' (some b):=fun c hc=>by
  obtain⟨es',clock',hs1,hs2⟩:=hS (Go.ChangeMaps.setBlock W b (.map es1 clock1)) (.int .i64 c) (Go.ChangeMaps.heap_setBlock_same hb _)
  obtain⟨w',hrun,hmp,hg⟩:=h.put he hK hn hB c hc
  rw[hs2]at hrun
  injection hrun with _ q
  rw[setb_set]at hs1
  rw[q]at hs1
  exact⟨w',hs1,hmp,hg⟩
 refine⟨v0,st,_,hE,⟨rfl,rfl,rfl,by simp[Go.ChangeMaps.setBlock],fun i _ hi=>Go.ChangeMaps.heap_setBlock_other hb _ (fun q=>hi (by rw[q]))⟩,?_,hput⟩
 obtain⟨u0,su,w1,q1,q2,q3⟩:=entry_put (W:=W) (deep_law_laid (by kernel_rfl) (m:=5) (by decide) (by decide +kernel) (by kernel_rfl) (by kernel_rfl)) Try.underlying45 (fun u=>zeroP u) hb hF hl
 rw[h.look (he.rg hK)]at q2
 have e0:u0=.int .i64 (f e):=by injection q2 with q2 _;exact q2.symm
 have e1:w1=Go.ChangeMaps.setBlock W b (.map es1 clock1):=by rw[hE]at q1;injection q1 with _ q4;exact q4.symm
 rw[e0,e1]at q3
 obtain⟨w',hrun,hmp,hg⟩:=h.put he hK hn hB (f e) (h.bd e)
 have e2:w'=Go.ChangeMaps.setBlock W b (.map es1 clock1):=by rw[q3]at hrun;injection hrun with _ q5;exact q5.symm
 have hl2:=hmp.look (he.rg hK)
 rw[e2,if_pos rfl]at hl2
 exact hl2
end Go.Proofs.Ytefooihnoajnlaa.Poly
