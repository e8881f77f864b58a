/- Several texts of the proof, one behind the other. -/
import Derived.Test.YtagaajlbkfkaiaaTkhP
import Derived.Test.YtagaajlbkfkaiaaMV1
import Derived.Test.YtagaajlbkfkaiaaOmP
import Derived.Deep.RegionHeld3
import Derived.Deep.Cut
import Derived.Test.YtagaajlbkfkaiaaW5P
import Derived.Test.YtagaajlbkfkaiaaH7
/- Moves: the walk of moves.Do, given what laid and moved do. -/
namespace Go.Proofs.Ytagaajlbkfkaiaa
open Go.RowKit
set_option maxHeartbeats 8000000
set_option maxRecDepth 100000
theorem grown_twoM {a b c:World} {row:Option Nat} (h:a.grownBy b row) (k:b.grownBy c row):a.grownBy c row:=
 ⟨k.os.trans h.os,k.tape.trans h.tape,k.output.trans h.output,Nat.le_trans h.size k.size,fun i hi hr=>(k.block i (Nat.lt_of_lt_of_le hi h.size) hr).trans (h.block i hi hr)⟩
theorem box_atM (w:World) (o:Obj):(w.alloc o).heap[w.heap.size]?=some o:=Array.getElem?_push_size
theorem box_lowM (w:World) (o:Obj) {k:Nat} (h:k<w.heap.size):(w.alloc o).heap[k]?=w.heap[k]?:=Array.getElem?_push_lt h |>.trans (Array.getElem?_eq_getElem h).symm
theorem frozM {w:World} {g i:Nat} {cs:Array Value} {t:TypeId} (h:w.heap[g]?=some (.cells cs t (0,0))):w.frozen? ⟨g,i,none⟩=false:=by
 unfold World.frozen?
 rw[h]
 simp
theorem sz_allocM (w:World) (o:Obj):(w.alloc o).heap.size=w.heap.size+1:=by simp
theorem do_boxes (a:Option Addr) (n c:Nat) (loops k at_ by_ ua va:Int) (ub vb ov:Bool) (w:World) (Y:World) (hY:Y=(((w.alloc (.cells #[.slice a n c,.int .i64 loops] 24)).alloc (.cells #[.int .i64 k,.int .i64 at_,.int .i64 by_,.int .i64 ua,.bool ub,.int .i64 va,.bool vb,.bool ov] 28)).alloc (.cells #[.slice none 0 0,.int .i64 0] 24)).alloc (.cells #[.int .i64 0] 29)):Below w.heap.size w Y/\(Y.heap[w.heap.size]?=some (.cells #[.slice a n c,.int .i64 loops] 24 (0,0))/\Y.heap[w.heap.size+1]?=some (.cells #[.int .i64 k,.int .i64 at_,.int .i64 by_,.int .i64 ua,.bool ub,.int .i64 va,.bool vb,.bool ov] 28 (0,0))/\Y.heap[w.heap.size+1+1]?=some (.cells #[.slice none 0 0,.int .i64 0] 24 (0,0))/\Y.heap[w.heap.size+1+1+1]?=some (.cells #[.int .i64 0] 29 (0,0))):=by
 have b0:Below w.heap.size w Y:=by rw[hY];exact((((Below.refl _ _).alloc (Nat.le_refl _) _).alloc (by simp) _).alloc (by simp only[sz_allocM];omega) _).alloc (by simp only[sz_allocM];omega) _
 refine⟨b0,?_,?_,?_,?_⟩
 · rw[hY,box_lowM _ _ (by simp only[sz_allocM];omega),box_lowM _ _ (by simp only[sz_allocM];omega),box_lowM _ _ (by simp)];exact box_atM _ _
 · rw[hY,box_lowM _ _ (by simp only[sz_allocM];omega),box_lowM _ _ (by simp only[sz_allocM];omega)]
   have:=box_atM (w.alloc (.cells #[.slice a n c,.int .i64 loops] 24)) (.cells #[.int .i64 k,.int .i64 at_,.int .i64 by_,.int .i64 ua,.bool ub,.int .i64 va,.bool vb,.bool ov] 28)
   simpa using this
 · rw[hY,box_lowM _ _ (by simp only[sz_allocM];omega)]
   have:=box_atM ((w.alloc (.cells #[.slice a n c,.int .i64 loops] 24)).alloc (.cells #[.int .i64 k,.int .i64 at_,.int .i64 by_,.int .i64 ua,.bool ub,.int .i64 va,.bool vb,.bool ov] 28)) (.cells #[.slice none 0 0,.int .i64 0] 24)
   simpa using this
 · have:=box_atM (((w.alloc (.cells #[.slice a n c,.int .i64 loops] 24)).alloc (.cells #[.int .i64 k,.int .i64 at_,.int .i64 by_,.int .i64 ua,.bool ub,.int .i64 va,.bool vb,.bool ov] 28)).alloc (.cells #[.slice none 0 0,.int .i64 0] 24)) (.cells #[.int .i64 0] 29)
   rw[hY]
   simpa using this
theorem leaves_like {P:Program} {fn:Func} {R:Ending->World->Prop} {t1 t2:Array Value} (h:results fn t1=results fn t2):∀ (ds:List Deferred) (u:FrameMode) (w:World),Leaves P fn t1 R ds u w->Leaves P fn t2 R ds u w
 |[],.returning,w,hl=>by
  obtain⟨v,h1,h2⟩:=hl
  exact⟨v,by rw[<-h];exact h1,h2⟩
 |[],.panicking c,w,hl=>hl
 |[],.run,w,hl=>hl
 |d::ds,u,w,hl=>by
  obtain⟨h1,fv,cap,f,args,h2,h3,h4⟩:=hl
  refine⟨h1,fv,cap,f,args,h2,h3,h4.mono ?_⟩
  intro e u' w' hq
  cases e with
  |returned v=>exact leaves_like h ds _ _ hq
  |panicked c=>exact leaves_like h ds _ _ hq
  |outgrown=>exact hq
theorem do_keeps {R:Ending->World->Prop} (d:Nat) (h4:d≠4) (h5:d≠5) (v:Value) (x:List PanicEntry) (a:Act) (w:World) (h:bodyPostD Try.prog Try.f9 R (.panic x) (Act.put a (some d) v) w):bodyPostD Try.prog Try.f9 R (.panic x) a w:=by
 refine leaves_like ?_ _ _ _ h
 simp[results,Try.results9,Act.put,h4,h5]
theorem mvDo_state (a:Option Addr) (n c:Nat) (loops k at_ by_ ua va:Int) (ub vb ov:Bool) (w:World) (hL:∀ W,Below w.heap.size w W->Calls Try.prog 29 #[.agg #[.slice a n c,.int .i64 loops]] W fun e w'=>e=.panicked (QZ7 7)/\Below W.heap.size W w'):
    Calls Try.prog 9 #[.agg #[.slice a n c, .int .i64 loops], .agg #[.int .i64 k, .int .i64 at_, .int .i64 by_, .int .i64 ua, .bool ub, .int .i64 va, .bool vb, .bool ov]] w fun e w' => e = .returned (.tuple #[.agg #[.slice none 0 0, .int .i64 0], .int .i64 7]) ∧ Below w.heap.size w w' := by
 have HL:=hidB hL
 have hmf:∀ (fn:Fn) (first cap:Array Value) (w:World),(Instr.makeFunc fn first cap).run Try.prog w=.ok (.func fn first cap) w:=fun _ _ _ _=>rfl
 obtain⟨Y,hY⟩:∃ Y,Y=(((w.alloc (.cells #[.slice a n c,.int .i64 loops] 24)).alloc (.cells #[.int .i64 k,.int .i64 at_,.int .i64 by_,.int .i64 ua,.bool ub,.int .i64 va,.bool vb,.bool ov] 28)).alloc (.cells #[.slice none 0 0,.int .i64 0] 24)).alloc (.cells #[.int .i64 0] 29):=⟨_,rfl⟩
 have HY:=hidB hY
 obtain⟨hBY,hBX⟩:=do_boxes a n c loops k at_ by_ ua va ub vb ov w Y hY
 have HBY:=hidB hBY
 have hsY:Y.heap.size=w.heap.size+4:=by rw[hY];simp
 have HBX:Hid (∀ W,Below Y.heap.size Y W->Below w.heap.size w W/\(W.heap[w.heap.size]?=some (.cells #[.slice a n c,.int .i64 loops] 24 (0,0))/\W.heap[w.heap.size+1]?=some (.cells #[.int .i64 k,.int .i64 at_,.int .i64 by_,.int .i64 ua,.bool ub,.int .i64 va,.bool vb,.bool ov] 28 (0,0))/\W.heap[w.heap.size+1+1]?=some (.cells #[.slice none 0 0,.int .i64 0] 24 (0,0))/\W.heap[w.heap.size+1+1+1]?=some (.cells #[.int .i64 0] 29 (0,0)))):=fun W hW=>⟨hBY.trans (hW.mono hBY.size),(hW.block _ (by omega)).trans hBX.1,(hW.block _ (by omega)).trans hBX.2.1,(hW.block _ (by omega)).trans hBX.2.2.1,(hW.block _ (by omega)).trans hBX.2.2.2⟩
 have HCS:Hid (∀ W,Below Y.heap.size Y W->(fun w':World=>w'.cell? ⟨w.heap.size,0,none⟩=some (.slice a n c)/\w'.cell? ⟨w.heap.size,1,none⟩=some (.int .i64 loops)/\w'.cell? ⟨w.heap.size+1,0,none⟩=some (.int .i64 k)/\w'.cell? ⟨w.heap.size+1,1,none⟩=some (.int .i64 at_)/\w'.cell? ⟨w.heap.size+1,2,none⟩=some (.int .i64 by_)/\w'.cell? ⟨w.heap.size+1,3,none⟩=some (.int .i64 ua)/\w'.cell? ⟨w.heap.size+1,4,none⟩=some (.bool ub)/\w'.cell? ⟨w.heap.size+1,5,none⟩=some (.int .i64 va)/\w'.cell? ⟨w.heap.size+1,6,none⟩=some (.bool vb)/\w'.cell? ⟨w.heap.size+1,7,none⟩=some (.bool ov)) W):=fun W hW=>by
  obtain⟨-,q0,q1,-,-⟩:=HBX.out W hW
  exact⟨QQ0 q0 rfl,QQ0 q0 rfl,QQ0 q1 rfl,QQ0 q1 rfl,QQ0 q1 rfl,QQ0 q1 rfl,QQ0 q1 rfl,QQ0 q1 rfl,QQ0 q1 rfl,QQ0 q1 rfl⟩
 have HDY : Hid (Below Y.heap.size Y Y.drew) := (Below.refl _ _).drew
 clear hY hBX hBY hL
 go_enter_defers Try.func9,Try.ntmps9
 go_wp2
 rw[<-HY.out]
 refine wp_region_held_drew (S:=fun w'=>w'.cell? ⟨w.heap.size,0,none⟩=some (.slice a n c)/\w'.cell? ⟨w.heap.size,1,none⟩=some (.int .i64 loops)/\w'.cell? ⟨w.heap.size+1,0,none⟩=some (.int .i64 k)/\w'.cell? ⟨w.heap.size+1,1,none⟩=some (.int .i64 at_)/\w'.cell? ⟨w.heap.size+1,2,none⟩=some (.int .i64 by_)/\w'.cell? ⟨w.heap.size+1,3,none⟩=some (.int .i64 ua)/\w'.cell? ⟨w.heap.size+1,4,none⟩=some (.bool ub)/\w'.cell? ⟨w.heap.size+1,5,none⟩=some (.int .i64 va)/\w'.cell? ⟨w.heap.size+1,6,none⟩=some (.bool vb)/\w'.cell? ⟨w.heap.size+1,7,none⟩=some (.bool ov)) (by kernel_rfl) (HCS.out _ HDY.out) (fun hHeld=>?_)
 refine wpAnyH_take (i:=0) (v:=?vv0u) rfl (by kernel_rfl) (by kernel_rfl) (by kernel_rfl) (fun x a w' h=>do_keeps 7 (by decide) (by decide) _ x a w' h) (Or.inl ⟨by rfl,?yy0u⟩) (by assumption) ?rr0u
 case yy0u=>(intro w hSw;(try dsimp only at hSw);go_simp;(try with_reducible rfl))
 try simp only[Act.put]
 refine wpAnyH_take (i:=2) (v:=?vv2u) rfl (by kernel_rfl) (by kernel_rfl) (by kernel_rfl) (fun x a w' h=>do_keeps 9 (by decide) (by decide) _ x a w' h) (Or.inl ⟨by rfl,?yy2u⟩) (by assumption) ?rr2u
 case yy2u=>(intro w hSw;(try dsimp only at hSw);go_simp;(try with_reducible rfl))
 try simp only[Act.put]
 refine rd1 1 (fun K hK=>?_)
 go_simp
 go_wp2_with (go_at_call 29;refine(HL.out _ (HBX.out _ HDY.out).1).mono ?_;rintro e9 w5 ⟨rfl,hb5⟩)
 have H5:=hidB (HDY.out.trans (hb5.mono HDY.out.size))
 clear hb5
 obtain⟨hbw,-,-,q2,q3⟩:=HBX.out w5 H5.out
 have c3:=QQ0 (i:=0) q3 rfl
 have z3:w5.frozen? ⟨w.heap.size+1+1+1,0,none⟩=false:=frozM q3
 refine leaves_cons (f:=28) (args:=#[.pointer (some ⟨w.heap.size+1+1+1,0,none⟩)]) (by simp) (by simp[go_sem]) ?_
 refine(caught ⟨w.heap.size+1+1+1,0,none⟩ 0 (7) [] w5 c3 z3).mono ?_
 rintro e u' w'' ⟨rfl,rfl,rfl⟩
 have g3:=QQ7 w5 (w.heap.size+1+1+1) 0 (.int .i64 (7))
 have r3:=QQ6 (i:=0) (u:=.int .i64 (7)) q3
 have r2:=(g3.block (w.heap.size+1+1) (Array.getElem?_eq_some_iff.1 q2).1 (fun e=>by have:=Option.some.inj e;omega)).trans q2
 have x0:=QQ0 (i:=0) (v:=.slice none 0 0) r2 rfl
 have x1:=QQ0 (i:=1) (v:=.int .i64 0) r2 rfl
 have x2:=QQ0 (i:=0) (v:=.int .i64 (7)) r3 rfl
 have hfin:Below w.heap.size w (w5.setCell ⟨w.heap.size+1+1+1,0,none⟩ (.int .i64 (7))):=hbw.grown g3 (by have:=(Array.getElem?_eq_some_iff.1 q3).1;omega) (fun q hq=>by have:=Option.some.inj hq;omega)
 simp[Leaves,settle,results,Try.results9,go_sem,x0,x1,x2,hfin]
theorem mvDo_no (a:Option Addr) (n c:Nat) (loops k at_ by_ ua va:Int) (ub vb ov:Bool) (w:World) (N:Nat) (B:Nat->Nat->Nat->Nat->World->Prop) (why:Int) (hL:∀ W,Below w.heap.size w W->Calls Try.prog 29 #[.agg #[.slice a n c,.int .i64 loops]] W fun e w'=>∃ gF cF gT cT,e=.returned (.agg #[.slice a n c,.int .i64 loops,.slice (some ⟨gF,0,none⟩) N cF,.slice (some ⟨gT,0,none⟩) N cT])/\B gF cF gT cT w'/\Below W.heap.size W w') (hM:∀ W gF cF gT cT,Below w.heap.size w W->B gF cF gT cT W->Calls Try.prog 30 #[.agg #[.slice a n c,.int .i64 loops,.slice (some ⟨gF,0,none⟩) N cF,.slice (some ⟨gT,0,none⟩) N cT],.agg #[.int .i64 k,.int .i64 at_,.int .i64 by_,.int .i64 ua,.bool ub,.int .i64 va,.bool vb,.bool ov]] W fun e w'=>e=.panicked (QZ7 why)/\Below W.heap.size W w'):
    Calls Try.prog 9 #[.agg #[.slice a n c, .int .i64 loops], .agg #[.int .i64 k, .int .i64 at_, .int .i64 by_, .int .i64 ua, .bool ub, .int .i64 va, .bool vb, .bool ov]] w fun e w' => e = .returned (.tuple #[.agg #[.slice none 0 0, .int .i64 0], .int .i64 why]) ∧ Below w.heap.size w w' := by
 have HL:=hidB hL
 have HM:=hidB hM
 have hmf:∀ (fn:Fn) (first cap:Array Value) (w:World),(Instr.makeFunc fn first cap).run Try.prog w=.ok (.func fn first cap) w:=fun _ _ _ _=>rfl
 obtain⟨Y,hY⟩:∃ Y,Y=(((w.alloc (.cells #[.slice a n c,.int .i64 loops] 24)).alloc (.cells #[.int .i64 k,.int .i64 at_,.int .i64 by_,.int .i64 ua,.bool ub,.int .i64 va,.bool vb,.bool ov] 28)).alloc (.cells #[.slice none 0 0,.int .i64 0] 24)).alloc (.cells #[.int .i64 0] 29):=⟨_,rfl⟩
 have HY:=hidB hY
 obtain⟨hBY,hBX⟩:=do_boxes a n c loops k at_ by_ ua va ub vb ov w Y hY
 have HBY:=hidB hBY
 have hsY:Y.heap.size=w.heap.size+4:=by rw[hY];simp
 have HBX:Hid (∀ W,Below Y.heap.size Y W->Below w.heap.size w W/\(W.heap[w.heap.size]?=some (.cells #[.slice a n c,.int .i64 loops] 24 (0,0))/\W.heap[w.heap.size+1]?=some (.cells #[.int .i64 k,.int .i64 at_,.int .i64 by_,.int .i64 ua,.bool ub,.int .i64 va,.bool vb,.bool ov] 28 (0,0))/\W.heap[w.heap.size+1+1]?=some (.cells #[.slice none 0 0,.int .i64 0] 24 (0,0))/\W.heap[w.heap.size+1+1+1]?=some (.cells #[.int .i64 0] 29 (0,0)))):=fun W hW=>⟨hBY.trans (hW.mono hBY.size),(hW.block _ (by omega)).trans hBX.1,(hW.block _ (by omega)).trans hBX.2.1,(hW.block _ (by omega)).trans hBX.2.2.1,(hW.block _ (by omega)).trans hBX.2.2.2⟩
 have HCS:Hid (∀ W,Below Y.heap.size Y W->(fun w':World=>w'.cell? ⟨w.heap.size,0,none⟩=some (.slice a n c)/\w'.cell? ⟨w.heap.size,1,none⟩=some (.int .i64 loops)/\w'.cell? ⟨w.heap.size+1,0,none⟩=some (.int .i64 k)/\w'.cell? ⟨w.heap.size+1,1,none⟩=some (.int .i64 at_)/\w'.cell? ⟨w.heap.size+1,2,none⟩=some (.int .i64 by_)/\w'.cell? ⟨w.heap.size+1,3,none⟩=some (.int .i64 ua)/\w'.cell? ⟨w.heap.size+1,4,none⟩=some (.bool ub)/\w'.cell? ⟨w.heap.size+1,5,none⟩=some (.int .i64 va)/\w'.cell? ⟨w.heap.size+1,6,none⟩=some (.bool vb)/\w'.cell? ⟨w.heap.size+1,7,none⟩=some (.bool ov)) W):=fun W hW=>by
  obtain⟨-,q0,q1,-,-⟩:=HBX.out W hW
  exact⟨QQ0 q0 rfl,QQ0 q0 rfl,QQ0 q1 rfl,QQ0 q1 rfl,QQ0 q1 rfl,QQ0 q1 rfl,QQ0 q1 rfl,QQ0 q1 rfl,QQ0 q1 rfl,QQ0 q1 rfl⟩
 have HDY : Hid (Below Y.heap.size Y Y.drew) := (Below.refl _ _).drew
 clear hY hBX hBY hL hM
 go_enter_defers Try.func9,Try.ntmps9
 go_wp2
 rw[<-HY.out]
 refine wp_region_held_drew (S:=fun w'=>w'.cell? ⟨w.heap.size,0,none⟩=some (.slice a n c)/\w'.cell? ⟨w.heap.size,1,none⟩=some (.int .i64 loops)/\w'.cell? ⟨w.heap.size+1,0,none⟩=some (.int .i64 k)/\w'.cell? ⟨w.heap.size+1,1,none⟩=some (.int .i64 at_)/\w'.cell? ⟨w.heap.size+1,2,none⟩=some (.int .i64 by_)/\w'.cell? ⟨w.heap.size+1,3,none⟩=some (.int .i64 ua)/\w'.cell? ⟨w.heap.size+1,4,none⟩=some (.bool ub)/\w'.cell? ⟨w.heap.size+1,5,none⟩=some (.int .i64 va)/\w'.cell? ⟨w.heap.size+1,6,none⟩=some (.bool vb)/\w'.cell? ⟨w.heap.size+1,7,none⟩=some (.bool ov)) (by kernel_rfl) (HCS.out _ HDY.out) (fun hHeld=>?_)
 refine wpAnyH_take (i:=0) (v:=?vv0u) rfl (by kernel_rfl) (by kernel_rfl) (by kernel_rfl) (fun x a w' h=>do_keeps 7 (by decide) (by decide) _ x a w' h) (Or.inl ⟨by rfl,?yy0u⟩) (by assumption) ?rr0u
 case yy0u=>(intro w hSw;(try dsimp only at hSw);go_simp;(try with_reducible rfl))
 try simp only[Act.put]
 refine wpAnyH_take (i:=2) (v:=?vv2u) rfl (by kernel_rfl) (by kernel_rfl) (by kernel_rfl) (fun x a w' h=>do_keeps 9 (by decide) (by decide) _ x a w' h) (Or.inl ⟨by rfl,?yy2u⟩) (by assumption) ?rr2u
 case yy2u=>(intro w hSw;(try dsimp only at hSw);go_simp;(try with_reducible rfl))
 try simp only[Act.put]
 refine rd1 1 (fun K hK=>?_)
 go_simp
 go_wp2_with (go_at_call 29;refine(HL.out _ (HBX.out _ HDY.out).1).mono ?_;rintro e9 w5 ⟨gF,cF,gT,cT,rfl,hB5,hb5⟩)
 have H5:=hidB (HDY.out.trans (hb5.mono HDY.out.size))
 have HB5:=hidB hB5
 clear hb5 hB5
 refine hK.out _ _ (HCS.out _ H5.out) (fun hHeld=>?_)
 clear hK K
 try simp only[Act.put]
 refine rd1 3 (fun K hK=>?_)
 go_simp
 go_wp2_with (go_at_call 30;refine(HM.out _ _ _ _ _ (HBX.out _ H5.out).1 HB5.out).mono ?_;rintro e9 w6 ⟨rfl,hb6⟩)
 have H6:=hidB (H5.out.trans (hb6.mono H5.out.size))
 clear hb6
 obtain⟨hbw,-,-,q2,q3⟩:=HBX.out w6 H6.out
 have c3:=QQ0 (i:=0) q3 rfl
 have z3:w6.frozen? ⟨w.heap.size+1+1+1,0,none⟩=false:=frozM q3
 refine leaves_cons (f:=28) (args:=#[.pointer (some ⟨w.heap.size+1+1+1,0,none⟩)]) (by simp) (by simp[go_sem]) ?_
 refine(caught ⟨w.heap.size+1+1+1,0,none⟩ 0 (why) [] w6 c3 z3).mono ?_
 rintro e u' w'' ⟨rfl,rfl,rfl⟩
 have g3:=QQ7 w6 (w.heap.size+1+1+1) 0 (.int .i64 (why))
 have r3:=QQ6 (i:=0) (u:=.int .i64 (why)) q3
 have r2:=(g3.block (w.heap.size+1+1) (Array.getElem?_eq_some_iff.1 q2).1 (fun e=>by have:=Option.some.inj e;omega)).trans q2
 have x0:=QQ0 (i:=0) (v:=.slice none 0 0) r2 rfl
 have x1:=QQ0 (i:=1) (v:=.int .i64 0) r2 rfl
 have x2:=QQ0 (i:=0) (v:=.int .i64 (why)) r3 rfl
 have hfin:Below w.heap.size w (w6.setCell ⟨w.heap.size+1+1+1,0,none⟩ (.int .i64 (why))):=hbw.grown g3 (by have:=(Array.getElem?_eq_some_iff.1 q3).1;omega) (fun q hq=>by have:=Option.some.inj hq;omega)
 simp[Leaves,settle,results,Try.results9,go_sem,x0,x1,x2,hfin]
theorem mvDo_yes (a:Option Addr) (n c:Nat) (loops k at_ by_ ua va:Int) (ub vb ov:Bool) (w:World) (N:Nat) (B:Nat->Nat->Nat->Nat->World->Prop) (R:Option Addr->Nat->Nat->Int->World->Prop) (hR:∀ a2 n2 c2 lo W U W',R a2 n2 c2 lo W->W.grownBy U (some (w.heap.size+1+1))->U.grownBy W' (some (w.heap.size+1+1+1))->R a2 n2 c2 lo W') (hL:∀ W,Below w.heap.size w W->Calls Try.prog 29 #[.agg #[.slice a n c,.int .i64 loops]] W fun e w'=>∃ gF cF gT cT,e=.returned (.agg #[.slice a n c,.int .i64 loops,.slice (some ⟨gF,0,none⟩) N cF,.slice (some ⟨gT,0,none⟩) N cT])/\B gF cF gT cT w'/\Below W.heap.size W w') (hM:∀ W gF cF gT cT,Below w.heap.size w W->w.heap.size+4<=W.heap.size->B gF cF gT cT W->Calls Try.prog 30 #[.agg #[.slice a n c,.int .i64 loops,.slice (some ⟨gF,0,none⟩) N cF,.slice (some ⟨gT,0,none⟩) N cT],.agg #[.int .i64 k,.int .i64 at_,.int .i64 by_,.int .i64 ua,.bool ub,.int .i64 va,.bool vb,.bool ov]] W fun e w'=>∃ a2 n2 c2 lo,e=.returned (.agg #[.slice a2 n2 c2,.int .i64 lo])/\R a2 n2 c2 lo w'/\Below W.heap.size W w'):
    Calls Try.prog 9 #[.agg #[.slice a n c, .int .i64 loops], .agg #[.int .i64 k, .int .i64 at_, .int .i64 by_, .int .i64 ua, .bool ub, .int .i64 va, .bool vb, .bool ov]] w fun e w' => ∃ a2 n2 c2 lo, e = .returned (.tuple #[.agg #[.slice a2 n2 c2, .int .i64 lo], .int .i64 0]) ∧ R a2 n2 c2 lo w' ∧ Below w.heap.size w w' := by
 have HL:=hidB hL
 have HM:=hidB hM
 have hmf:∀ (fn:Fn) (first cap:Array Value) (w:World),(Instr.makeFunc fn first cap).run Try.prog w=.ok (.func fn first cap) w:=fun _ _ _ _=>rfl
 obtain⟨Y,hY⟩:∃ Y,Y=(((w.alloc (.cells #[.slice a n c,.int .i64 loops] 24)).alloc (.cells #[.int .i64 k,.int .i64 at_,.int .i64 by_,.int .i64 ua,.bool ub,.int .i64 va,.bool vb,.bool ov] 28)).alloc (.cells #[.slice none 0 0,.int .i64 0] 24)).alloc (.cells #[.int .i64 0] 29):=⟨_,rfl⟩
 have HY:=hidB hY
 obtain⟨hBY,hBX⟩:=do_boxes a n c loops k at_ by_ ua va ub vb ov w Y hY
 have HBY:=hidB hBY
 have hsY:Y.heap.size=w.heap.size+4:=by rw[hY];simp
 have HBX:Hid (∀ W,Below Y.heap.size Y W->Below w.heap.size w W/\(W.heap[w.heap.size]?=some (.cells #[.slice a n c,.int .i64 loops] 24 (0,0))/\W.heap[w.heap.size+1]?=some (.cells #[.int .i64 k,.int .i64 at_,.int .i64 by_,.int .i64 ua,.bool ub,.int .i64 va,.bool vb,.bool ov] 28 (0,0))/\W.heap[w.heap.size+1+1]?=some (.cells #[.slice none 0 0,.int .i64 0] 24 (0,0))/\W.heap[w.heap.size+1+1+1]?=some (.cells #[.int .i64 0] 29 (0,0)))):=fun W hW=>⟨hBY.trans (hW.mono hBY.size),(hW.block _ (by omega)).trans hBX.1,(hW.block _ (by omega)).trans hBX.2.1,(hW.block _ (by omega)).trans hBX.2.2.1,(hW.block _ (by omega)).trans hBX.2.2.2⟩
 have HCS:Hid (∀ W,Below Y.heap.size Y W->(fun w':World=>w'.cell? ⟨w.heap.size,0,none⟩=some (.slice a n c)/\w'.cell? ⟨w.heap.size,1,none⟩=some (.int .i64 loops)/\w'.cell? ⟨w.heap.size+1,0,none⟩=some (.int .i64 k)/\w'.cell? ⟨w.heap.size+1,1,none⟩=some (.int .i64 at_)/\w'.cell? ⟨w.heap.size+1,2,none⟩=some (.int .i64 by_)/\w'.cell? ⟨w.heap.size+1,3,none⟩=some (.int .i64 ua)/\w'.cell? ⟨w.heap.size+1,4,none⟩=some (.bool ub)/\w'.cell? ⟨w.heap.size+1,5,none⟩=some (.int .i64 va)/\w'.cell? ⟨w.heap.size+1,6,none⟩=some (.bool vb)/\w'.cell? ⟨w.heap.size+1,7,none⟩=some (.bool ov)) W):=fun W hW=>by
  obtain⟨-,q0,q1,-,-⟩:=HBX.out W hW
  exact⟨QQ0 q0 rfl,QQ0 q0 rfl,QQ0 q1 rfl,QQ0 q1 rfl,QQ0 q1 rfl,QQ0 q1 rfl,QQ0 q1 rfl,QQ0 q1 rfl,QQ0 q1 rfl,QQ0 q1 rfl⟩
 have HDY : Hid (Below Y.heap.size Y Y.drew) := (Below.refl _ _).drew
 clear hY hBX hBY hL hM
 go_enter_defers Try.func9,Try.ntmps9
 go_wp2
 rw[<-HY.out]
 refine wp_region_held_drew (S:=fun w'=>w'.cell? ⟨w.heap.size,0,none⟩=some (.slice a n c)/\w'.cell? ⟨w.heap.size,1,none⟩=some (.int .i64 loops)/\w'.cell? ⟨w.heap.size+1,0,none⟩=some (.int .i64 k)/\w'.cell? ⟨w.heap.size+1,1,none⟩=some (.int .i64 at_)/\w'.cell? ⟨w.heap.size+1,2,none⟩=some (.int .i64 by_)/\w'.cell? ⟨w.heap.size+1,3,none⟩=some (.int .i64 ua)/\w'.cell? ⟨w.heap.size+1,4,none⟩=some (.bool ub)/\w'.cell? ⟨w.heap.size+1,5,none⟩=some (.int .i64 va)/\w'.cell? ⟨w.heap.size+1,6,none⟩=some (.bool vb)/\w'.cell? ⟨w.heap.size+1,7,none⟩=some (.bool ov)) (by kernel_rfl) (HCS.out _ HDY.out) (fun hHeld=>?_)
 refine wpAnyH_take (i:=0) (v:=?vv0u) rfl (by kernel_rfl) (by kernel_rfl) (by kernel_rfl) (fun x a w' h=>do_keeps 7 (by decide) (by decide) _ x a w' h) (Or.inl ⟨by rfl,?yy0u⟩) (by assumption) ?rr0u
 case yy0u=>(intro w hSw;(try dsimp only at hSw);go_simp;(try with_reducible rfl))
 try simp only[Act.put]
 refine wpAnyH_take (i:=2) (v:=?vv2u) rfl (by kernel_rfl) (by kernel_rfl) (by kernel_rfl) (fun x a w' h=>do_keeps 9 (by decide) (by decide) _ x a w' h) (Or.inl ⟨by rfl,?yy2u⟩) (by assumption) ?rr2u
 case yy2u=>(intro w hSw;(try dsimp only at hSw);go_simp;(try with_reducible rfl))
 try simp only[Act.put]
 refine rd1 1 (fun K hK=>?_)
 go_simp
 go_wp2_with (go_at_call 29;refine(HL.out _ (HBX.out _ HDY.out).1).mono ?_;rintro e9 w5 ⟨gF,cF,gT,cT,rfl,hB5,hb5⟩)
 have H5:=hidB (HDY.out.trans (hb5.mono HDY.out.size))
 have HB5:=hidB hB5
 clear hb5 hB5
 refine hK.out _ _ (HCS.out _ H5.out) (fun hHeld=>?_)
 clear hK K
 try simp only[Act.put]
 refine rd1 3 (fun K hK=>?_)
 go_simp
 go_wp2_with (go_at_call 30;refine(HM.out _ _ _ _ _ (HBX.out _ H5.out).1 (by have:=H5.out.size;omega) HB5.out).mono ?_;rintro e9 w6 ⟨a2,n2,c2,lo,rfl,hR6,hb6⟩)
 have H6:=hidB (H5.out.trans (hb6.mono H5.out.size))
 have HR6:=hidB hR6
 clear hb6 hR6
 refine hK.out _ _ (HCS.out _ H6.out) (fun hHeld=>?_)
 clear hK K
 try simp only[Act.put]
 obtain⟨hbw,-,-,q2,q3⟩:=HBX.out w6 H6.out
 have c2a:=QQ0 (i:=0) q2 rfl
 have c2b:=QQ0 (i:=1) q2 rfl
 have z2a:w6.frozen? ⟨w.heap.size+1+1,0,none⟩=false:=frozM q2
 have z2b:w6.frozen? ⟨w.heap.size+1+1,1,none⟩=false:=frozM q2
 have l2:w.heap.size+1+1<w6.heap.size:=(Array.getElem?_eq_some_iff.1 q2).1
 obtain⟨Z,hZ⟩:∃ Z,Z=(w6.setCell ⟨w.heap.size+1+1,0,none⟩ (.slice a2 n2 c2)).setCell ⟨w.heap.size+1+1,1,none⟩ (.int .i64 lo):=⟨_,rfl⟩
 have hgZ:w6.grownBy Z (some (w.heap.size+1+1)):=by rw[hZ];exact grown_twoM (QQ7 _ _ _ _) (QQ7 _ _ _ _)
 have hZ2:Z.heap[w.heap.size+1+1]?=some (.cells #[.slice a2 n2 c2,.int .i64 lo] 24 (0,0)):=by rw[hZ,QQ6 (QQ6 q2)];rfl
 have hZ3:Z.heap[w.heap.size+1+1+1]?=some (.cells #[.int .i64 0] 29 (0,0)):=(hgZ.block _ (Array.getElem?_eq_some_iff.1 q3).1 (fun e=>by have:=Option.some.inj e;omega)).trans q3
 have HZB:Hid (Below w.heap.size w Z):=hbw.grown hgZ (by omega) (fun q hq=>by have:=Option.some.inj hq;omega)
 have HZS:Hid (∀ W,w6.grownBy W (some (w.heap.size+1+1))∨(∃ V,w6.grownBy V (some (w.heap.size+1+1))/\V.grownBy W (some (w.heap.size+1+1+1)))->(fun w':World=>w'.cell? ⟨w.heap.size,0,none⟩=some (.slice a n c)/\w'.cell? ⟨w.heap.size,1,none⟩=some (.int .i64 loops)/\w'.cell? ⟨w.heap.size+1,0,none⟩=some (.int .i64 k)/\w'.cell? ⟨w.heap.size+1,1,none⟩=some (.int .i64 at_)/\w'.cell? ⟨w.heap.size+1,2,none⟩=some (.int .i64 by_)/\w'.cell? ⟨w.heap.size+1,3,none⟩=some (.int .i64 ua)/\w'.cell? ⟨w.heap.size+1,4,none⟩=some (.bool ub)/\w'.cell? ⟨w.heap.size+1,5,none⟩=some (.int .i64 va)/\w'.cell? ⟨w.heap.size+1,6,none⟩=some (.bool vb)/\w'.cell? ⟨w.heap.size+1,7,none⟩=some (.bool ov)) W):=fun W hW=>by
  obtain⟨-,p0,p1,-,-⟩:=HBX.out w6 H6.out
  have l0:=(Array.getElem?_eq_some_iff.1 p0).1
  have l1:=(Array.getElem?_eq_some_iff.1 p1).1
  have r0:W.heap[w.heap.size]?=some (.cells #[.slice a n c,.int .i64 loops] 24 (0,0)):=by
   rcases hW with h|⟨V,h,h'⟩
   · exact(h.block _ l0 (fun e=>by have:=Option.some.inj e;omega)).trans p0
   · exact(h'.block _ (Nat.lt_of_lt_of_le l0 h.size) (fun e=>by have:=Option.some.inj e;omega)).trans ((h.block _ l0 (fun e=>by have:=Option.some.inj e;omega)).trans p0)
  have r1:W.heap[w.heap.size+1]?=some (.cells #[.int .i64 k,.int .i64 at_,.int .i64 by_,.int .i64 ua,.bool ub,.int .i64 va,.bool vb,.bool ov] 28 (0,0)):=by
   rcases hW with h|⟨V,h,h'⟩
   · exact(h.block _ l1 (fun e=>by have:=Option.some.inj e;omega)).trans p1
   · exact(h'.block _ (Nat.lt_of_lt_of_le l1 h.size) (fun e=>by have:=Option.some.inj e;omega)).trans ((h.block _ l1 (fun e=>by have:=Option.some.inj e;omega)).trans p1)
  exact⟨QQ0 r0 rfl,QQ0 r0 rfl,QQ0 r1 rfl,QQ0 r1 rfl,QQ0 r1 rfl,QQ0 r1 rfl,QQ0 r1 rfl,QQ0 r1 rfl,QQ0 r1 rfl,QQ0 r1 rfl⟩
 have HZE:=hidB hZ
 clear hZ
 refine rd1 4 (fun K hK=>?_)
 go_simp
 rw[<-HZE.out]
 clear HZE
 refine hK.out _ _ (HZS.out _ (Or.inl hgZ)) (fun hHeld=>?_)
 clear hK K
 try simp only[Act.put]
 have c3:=QQ0 (i:=0) hZ3 rfl
 have z3:Z.frozen? ⟨w.heap.size+1+1+1,0,none⟩=false:=frozM hZ3
 have l3:w.heap.size+1+1+1<Z.heap.size:=(Array.getElem?_eq_some_iff.1 hZ3).1
 obtain⟨X,hX⟩:∃ X,X=Z.setCell ⟨w.heap.size+1+1+1,0,none⟩ (.int .i64 0):=⟨_,rfl⟩
 have hgX:Z.grownBy X (some (w.heap.size+1+1+1)):=by rw[hX];exact QQ7 _ _ _ _
 have hX3:X.heap[w.heap.size+1+1+1]?=some (.cells #[.int .i64 0] 29 (0,0)):=by rw[hX,QQ6 hZ3];rfl
 have hX2:X.heap[w.heap.size+1+1]?=some (.cells #[.slice a2 n2 c2,.int .i64 lo] 24 (0,0)):=(hgX.block _ (Array.getElem?_eq_some_iff.1 hZ2).1 (fun e=>by have:=Option.some.inj e;omega)).trans hZ2
 have HXB:Hid (Below w.heap.size w X):=HZB.out.grown hgX (by omega) (fun q hq=>by have:=Option.some.inj hq;omega)
 have HXR:=hidB (hR _ _ _ _ _ _ _ HR6.out hgZ hgX)
 have HXE:=hidB hX
 clear hX
 refine rd1 5 (fun K hK=>?_)
 go_simp
 rw[<-HXE.out]
 refine hK.out _ _ (HZS.out _ (Or.inr ⟨Z,hgZ,hgX⟩)) (fun hHeld=>?_)
 clear hK K
 try simp only[Act.put]
 refine wpAnyH_done (by kernel_rfl) ?_ _
 clear hHeld
 go_wp2
 refine leaves_cons (f:=28) (args:=#[.pointer (some ⟨w.heap.size+1+1+1,0,none⟩)]) (by simp) (by simp[go_sem]) ?_
 refine(uncaught ⟨w.heap.size+1+1+1,0,none⟩ X).mono ?_
 rintro e u' w'' ⟨rfl,rfl,rfl⟩
 have x0:=QQ0 (i:=0) (v:=.slice a2 n2 c2) hX2 rfl
 have x1:=QQ0 (i:=1) (v:=.int .i64 lo) hX2 rfl
 have x2:=QQ0 (i:=0) (v:=.int .i64 0) hX3 rfl
 have hfin:∃ a3 n3 c3 l3,Ending.returned (.tuple #[.agg #[.slice a2 n2 c2,.int .i64 lo],.int .i64 0])=Ending.returned (.tuple #[.agg #[.slice a3 n3 c3,.int .i64 l3],.int .i64 0])/\R a3 n3 c3 l3 w''/\Below w.heap.size w w'':=⟨_,_,_,_,rfl,HXR.out,HXB.out⟩
 show ∃ v,_/\_
 refine⟨.tuple #[.agg #[.slice a2 n2 c2,.int .i64 lo],.int .i64 0],?_,hfin⟩
 simp[results,Try.results9,go_sem,x0,x1,x2]
end Go.Proofs.Ytagaajlbkfkaiaa
/- Rows of moves: what a move is, what laid and moved do with it, and the walks of slices.Clone and of what Row defers. -/
namespace Go.Proofs.Ytagaajlbkfkaiaa
open Go.RowKit
theorem hidQ {P:Prop} (h:P):Hid P:=h
structure Mo where
 k:Int
 x:Int
 y:Int
 u:Int
 ub:Bool
 v:Int
 vb:Bool
 ov:Bool
def Mo.none:Mo:=⟨0,0,0,0,false,0,false,false⟩
def Mo.val (m:Mo):Value:=.agg #[.int .i64 m.k,.int .i64 m.x,.int .i64 m.y,.int .i64 m.u,.bool m.ub,.int .i64 m.v,.bool m.vb,.bool m.ov]
def MoAt (w:World) (b off:Nat) (ms:List Mo):Prop:=∀ i,i<ms.length->
 w.cell? ⟨b,off+i*8,none⟩=some (.int .i64 (ms.getD i Mo.none).k)/\w.cell? ⟨b,off+i*8+1,none⟩=some (.int .i64 (ms.getD i Mo.none).x)/\
 w.cell? ⟨b,off+i*8+2,none⟩=some (.int .i64 (ms.getD i Mo.none).y)/\w.cell? ⟨b,off+i*8+3,none⟩=some (.int .i64 (ms.getD i Mo.none).u)/\
 w.cell? ⟨b,off+i*8+4,none⟩=some (.bool (ms.getD i Mo.none).ub)/\w.cell? ⟨b,off+i*8+5,none⟩=some (.int .i64 (ms.getD i Mo.none).v)/\
 w.cell? ⟨b,off+i*8+6,none⟩=some (.bool (ms.getD i Mo.none).vb)/\w.cell? ⟨b,off+i*8+7,none⟩=some (.bool (ms.getD i Mo.none).ov)
def Mvs (w:World) (B:Nat) (v:Value) (ms:List Mo):Prop:=∃ a cap,v=.slice a ms.length cap/\ms.length<=maxLen/\(0<ms.length->∃ b off,a=some ⟨b,off,none⟩/\b<B/\MoAt w b off ms)
theorem MoAt.on {w w':World} {B b off:Nat} {ms:List Mo} (h:MoAt w b off ms) (hb:Below B w w') (hlt:b<B):MoAt w' b off ms:=fun i hi=>by
 obtain⟨h0,h1,h2,h3,h4,h5,h6,h7⟩:=h i hi
 exact⟨bcell hb hlt h0,bcell hb hlt h1,bcell hb hlt h2,bcell hb hlt h3,bcell hb hlt h4,bcell hb hlt h5,bcell hb hlt h6,bcell hb hlt h7⟩
theorem Mvs.up {w w':World} {v:Value} {ms:List Mo} (h:Mvs w w.heap.size v ms) (hb:Below w.heap.size w w'):Mvs w' w'.heap.size v ms:=by
 obtain⟨a,cap,rfl,hn,g⟩:=h
 refine⟨a,cap,rfl,hn,fun h0=>?_⟩
 obtain⟨b,off,rfl,hlt,hC⟩:=g h0
 exact⟨b,off,rfl,Nat.lt_of_lt_of_le hlt hb.size,hC.on hb hlt⟩
structure CrF (w:World) (B:Nat) (a:Option Addr) (c:Nat) (C:List Cr):Prop where
 crs:Crs w w.heap.size (.slice a C.length c) C
 far:0<C.length->∀ ad,a=some ad->B<=ad.block
theorem CrF.up {w w':World} {B:Nat} {a:Option Addr} {c:Nat} {C:List Cr} (h:CrF w B a c C) (hb:Below w.heap.size w w'):CrF w' B a c C:=⟨h.crs.up hb,h.far⟩
theorem CrF.put {w w':World} {B g:Nat} {a:Option Addr} {c:Nat} {C:List Cr} (h:CrF w B a c C) (hg:w.grownBy w' (some g)) (hB:g<B):CrF w' B a c C:=by
 refine⟨?_,h.far⟩
 obtain⟨a',cap',e,hn,k⟩:=h.crs
 injection e with e1 e2 e3
 subst e1 e3
 refine⟨a,c,rfl,hn,fun h0=>?_⟩
 obtain⟨b,off,h1,h2,h3⟩:=k h0
 have hf:B<=b:=h.far h0 _ h1
 refine⟨b,off,h1,Nat.lt_of_lt_of_le h2 hg.size,fun i hi=>?_⟩
 have hbk:=hg.block b h2 (fun e=>by have:=Option.some.inj e;omega)
 have hc:∀ j u,w.cell? ⟨b,j,none⟩=some u->w'.cell? ⟨b,j,none⟩=some u:=fun j u hu=>by
  simp only[World.cell?]at hu ⊢
  rw[hbk]
  exact hu
 obtain⟨q0,q1,q2,q3,q4⟩:=h3 i hi
 exact⟨hc _ _ q0,hc _ _ q1,hc _ _ q2,hc _ _ q3,hc _ _ q4⟩
theorem own_fewQ {w:World} {B e s n:Nat} {v:Value} {xs:List Value} (h:w.ownsRow B e s v n xs):n<=maxLen:=by
 rcases h.2 with⟨-,h2⟩|⟨g,cp,cu,-,-,-,h5,h6,-⟩
 · subst h2
   unfold maxLen
   omega
 · omega
def Ways (a:Option Addr) (cap:Nat) (C:List Cr) (loops:Int) (m:Mo) (D:List Cr) (lo ce:Int) (w:World):Prop:=
 (D=[]/\lo=0/\ce=7/\∀ W,Below w.heap.size w W->Calls Try.prog 29 #[.agg #[.slice a C.length cap,.int .i64 loops]] W fun e w'=>e=.panicked (QZ7 7)/\Below W.heap.size W w')∨
 ((∀ W,Below w.heap.size w W->Calls Try.prog 29 #[.agg #[.slice a C.length cap,.int .i64 loops]] W fun e w'=>∃ gF cF gT cT,e=.returned (drV a cap C loops gF cF gT cT)/\Dr w' a cap C gF gT/\Below W.heap.size W w')/\
  ((D=[]/\lo=0/\ce≠0/\∀ W gF cF gT cT,Dr W a cap C gF gT->Calls Try.prog 30 #[drV a cap C loops gF cF gT cT,m.val] W fun e w'=>e=.panicked (QZ7 ce)/\Below W.heap.size W w')∨
   (ce=0/\∀ W gF cF gT cT,Dr W a cap C gF gT->Calls Try.prog 30 #[drV a cap C loops gF cF gT cT,m.val] W fun e w'=>∃ a2 c2,e=.returned (.agg #[.slice a2 D.length c2,.int .i64 lo])/\w'.ownsRow W.heap.size 71 5 (.slice a2 D.length c2) D.length (QQ4 D)/\Below W.heap.size W w')))
end Go.Proofs.Ytagaajlbkfkaiaa
