/- Several texts of the proof, one behind the other. -/
import Derived.Test.YtagaajlbkfkaiaaMV5
import Derived.Test.YtagaajlbkfkaiaaOmP
/- Moves: the walk of bench.curl. Made by genmv6.py. -/
namespace Go.Proofs.Ytagaajlbkfkaiaa
open Go.RowKit Go.Maps
set_option maxHeartbeats 8000000
set_option maxRecDepth 100000
def curlB (C:List Cr) (loops x:Int):Bool:=hasB C x||(decide (x=0)&&decide (0<loops))
def mvV (k x y ua:Int) (ub:Bool) (va:Int) (vb ov:Bool):Value:=.agg #[.int .i64 k,.int .i64 x,.int .i64 y,.int .i64 ua,.bool ub,.int .i64 va,.bool vb,.bool ov]
theorem curl_no1 (a:Option Addr) (cap:Nat) (C:List Cr) (loops:Int) (gF cF gT cT:Nat) (k x y ua va:Int) (ub vb ov:Bool) (w:World) (hl:C.length<=16) (h:curlB C loops x=false):
    Calls Try.prog 88 #[drV a cap C loops gF cF gT cT, mvV k x y ua ub va vb ov] w fun e w' => e = .panicked (QZ7 3) ∧ Below w.heap.size w w' := by
 unfold mvV
 have hh:hasB C x=false:=by unfold curlB at h;cases hh:hasB C x<;>simp[hh]at h ⊢
 have HHS:Hid (∀ W,Calls Try.prog 104 #[drV a cap C loops gF cF gT cT,.int .i64 x] W fun e w'=>e=.returned (.bool false)/\Below W.heap.size W w'):=fun W=>by have:=has_any a cap C loops gF cF gT cT x W hl;rw[hh]at this;exact this
 have hx:x=0->decide (0<loops)=false:=by unfold curlB at h;rw[hh]at h;intro e;simpa[e] using h
 unfold drV at HHS ⊢
 obtain⟨Y,hY⟩:∃ Y,Y=((w.alloc (.cells #[.slice a C.length cap,.int .i64 loops,.slice (some ⟨gF,0,none⟩) (2*C.length+1) cF,.slice (some ⟨gT,0,none⟩) (2*C.length+1) cT] 63)).alloc (.cells #[.int .i64 k,.int .i64 x,.int .i64 y,.int .i64 ua,.bool ub,.int .i64 va,.bool vb,.bool ov] 28)).alloc (.cells #[.slice none 0 0,.int .i64 0] 24):=⟨_,rfl⟩
 have HY:Hid (Y=((w.alloc (.cells #[.slice a C.length cap,.int .i64 loops,.slice (some ⟨gF,0,none⟩) (2*C.length+1) cF,.slice (some ⟨gT,0,none⟩) (2*C.length+1) cT] 63)).alloc (.cells #[.int .i64 k,.int .i64 x,.int .i64 y,.int .i64 ua,.bool ub,.int .i64 va,.bool vb,.bool ov] 28)).alloc (.cells #[.slice none 0 0,.int .i64 0] 24)):=hY
 have HBY:Hid (Below w.heap.size w Y):=(by rw[hY];exact QV1 _ _ _ _:Below w.heap.size w Y)
 have HT0:Hid (Y.heap[w.heap.size]?=some (.cells #[.slice a C.length cap,.int .i64 loops,.slice (some ⟨gF,0,none⟩) (2*C.length+1) cF,.slice (some ⟨gT,0,none⟩) (2*C.length+1) cT] 63 (0,0))):=(by rw[hY];exact alloc_old (alloc_old (alloc_at rfl)):Y.heap[w.heap.size]?=some (.cells #[.slice a C.length cap,.int .i64 loops,.slice (some ⟨gF,0,none⟩) (2*C.length+1) cF,.slice (some ⟨gT,0,none⟩) (2*C.length+1) cT] 63 (0,0)))
 have HT1:Hid (Y.heap[w.heap.size+1]?=some (.cells #[.int .i64 k,.int .i64 x,.int .i64 y,.int .i64 ua,.bool ub,.int .i64 va,.bool vb,.bool ov] 28 (0,0))):=(by rw[hY];exact alloc_old (alloc_at (by simp)):Y.heap[w.heap.size+1]?=some (.cells #[.int .i64 k,.int .i64 x,.int .i64 y,.int .i64 ua,.bool ub,.int .i64 va,.bool vb,.bool ov] 28 (0,0)))
 have HT2:Hid (Y.heap[w.heap.size+1+1]?=some (.cells #[.slice none 0 0,.int .i64 0] 24 (0,0))):=(by rw[hY];exact alloc_at (by simp):Y.heap[w.heap.size+1+1]?=some (.cells #[.slice none 0 0,.int .i64 0] 24 (0,0)))
 have hsY:Y.heap.size=w.heap.size+3:=by rw[hY];simp
 clear hY
 clear h hh
 by_cases hx0:x=0
 · have d2 := hx hx0
   subst hx0
   clear hx
   go_enter Try.func88,Try.ntmps88
   go_wp2_with (first
    |(go_at_call 41;refine(QK0 3 _).mono ?_;rintro e9 w4 ⟨rfl,e4⟩;obtain rfl:=e4.symm)
    | (go_at_call 104; rw [← HY.out]; refine (HHS.out _).mono ?_; rintro e9 w3 ⟨rfl, hb3⟩
       have HB3:Hid (Below Y.heap.size Y w3):=hb3
       have hs3:=hb3.size
       have q0:=(hb3.block _ (by omega)).trans HT0.out
       have q1:=(hb3.block _ (by omega)).trans HT1.out
       have b0:w3.cell? ⟨w.heap.size,0,none⟩=some (.slice a C.length cap):=QQ0 q0 rfl
       have b1:w3.cell? ⟨w.heap.size,1,none⟩=some (.int .i64 loops):=QQ0 q0 rfl
       have b2:w3.cell? ⟨w.heap.size,2,none⟩=some (.slice (some ⟨gF,0,none⟩) (2*C.length+1) cF):=QQ0 q0 rfl
       have b3:w3.cell? ⟨w.heap.size,3,none⟩=some (.slice (some ⟨gT,0,none⟩) (2*C.length+1) cT):=QQ0 q0 rfl
       have m0:w3.cell? ⟨w.heap.size+1,0,none⟩=some (.int .i64 k):=QQ0 q1 rfl
       have m1:w3.cell? ⟨w.heap.size+1,1,none⟩=some (.int .i64 0):=QQ0 q1 rfl
       have m2:w3.cell? ⟨w.heap.size+1,2,none⟩=some (.int .i64 y):=QQ0 q1 rfl
       have m3:w3.cell? ⟨w.heap.size+1,3,none⟩=some (.int .i64 ua):=QQ0 q1 rfl
       have m4:w3.cell? ⟨w.heap.size+1,4,none⟩=some (.bool ub):=QQ0 q1 rfl
       have m5:w3.cell? ⟨w.heap.size+1,5,none⟩=some (.int .i64 va):=QQ0 q1 rfl
       have m6:w3.cell? ⟨w.heap.size+1,6,none⟩=some (.bool vb):=QQ0 q1 rfl
       have m7:w3.cell? ⟨w.heap.size+1,7,none⟩=some (.bool ov):=QQ0 q1 rfl
       have lb:w.heap.size<w3.heap.size:=by omega
       have lm:w.heap.size+1<w3.heap.size:=by omega
       clear hb3 q0 q1))
   exact⟨rfl,rfl,HBY.out.trans (HB3.out.mono (by omega))⟩
 · clear hx
   go_enter Try.func88,Try.ntmps88
   go_wp2_with (first
    |(go_at_call 41;refine(QK0 3 _).mono ?_;rintro e9 w4 ⟨rfl,e4⟩;obtain rfl:=e4.symm)
    | (go_at_call 104; rw [← HY.out]; refine (HHS.out _).mono ?_; rintro e9 w3 ⟨rfl, hb3⟩
       have HB3:Hid (Below Y.heap.size Y w3):=hb3
       have hs3:=hb3.size
       have q0:=(hb3.block _ (by omega)).trans HT0.out
       have q1:=(hb3.block _ (by omega)).trans HT1.out
       have b0:w3.cell? ⟨w.heap.size,0,none⟩=some (.slice a C.length cap):=QQ0 q0 rfl
       have b1:w3.cell? ⟨w.heap.size,1,none⟩=some (.int .i64 loops):=QQ0 q0 rfl
       have b2:w3.cell? ⟨w.heap.size,2,none⟩=some (.slice (some ⟨gF,0,none⟩) (2*C.length+1) cF):=QQ0 q0 rfl
       have b3:w3.cell? ⟨w.heap.size,3,none⟩=some (.slice (some ⟨gT,0,none⟩) (2*C.length+1) cT):=QQ0 q0 rfl
       have m0:w3.cell? ⟨w.heap.size+1,0,none⟩=some (.int .i64 k):=QQ0 q1 rfl
       have m1:w3.cell? ⟨w.heap.size+1,1,none⟩=some (.int .i64 x):=QQ0 q1 rfl
       have m2:w3.cell? ⟨w.heap.size+1,2,none⟩=some (.int .i64 y):=QQ0 q1 rfl
       have m3:w3.cell? ⟨w.heap.size+1,3,none⟩=some (.int .i64 ua):=QQ0 q1 rfl
       have m4:w3.cell? ⟨w.heap.size+1,4,none⟩=some (.bool ub):=QQ0 q1 rfl
       have m5:w3.cell? ⟨w.heap.size+1,5,none⟩=some (.int .i64 va):=QQ0 q1 rfl
       have m6:w3.cell? ⟨w.heap.size+1,6,none⟩=some (.bool vb):=QQ0 q1 rfl
       have m7:w3.cell? ⟨w.heap.size+1,7,none⟩=some (.bool ov):=QQ0 q1 rfl
       have lb:w.heap.size<w3.heap.size:=by omega
       have lm:w.heap.size+1<w3.heap.size:=by omega
       clear hb3 q0 q1))
   exact⟨rfl,rfl,HBY.out.trans (HB3.out.mono (by omega))⟩
theorem curl_no2 (a:Option Addr) (cap:Nat) (C:List Cr) (loops:Int) (gF cF gT cT:Nat) (k x y ua va:Int) (ub vb ov:Bool) (w:World) (hl:C.length<=16) (h:curlB C loops x=true) (hy:¬ (0<=y/\y<4)):
    Calls Try.prog 88 #[drV a cap C loops gF cF gT cT,mvV k x y ua ub va vb ov] w fun e w'=>e=.panicked (QZ7 3)/\Below w.heap.size w w':=by
 unfold mvV
 cases hh : hasB C x with
 | true =>
  have HHS:Hid (∀ W,Calls Try.prog 104 #[drV a cap C loops gF cF gT cT,.int .i64 x] W fun e w'=>e=.returned (.bool true)/\Below W.heap.size W w'):=fun W=>by have:=has_any a cap C loops gF cF gT cT x W hl;rw[hh]at this;exact this
  unfold drV at HHS ⊢
  obtain⟨Y,hY⟩:∃ Y,Y=((w.alloc (.cells #[.slice a C.length cap,.int .i64 loops,.slice (some ⟨gF,0,none⟩) (2*C.length+1) cF,.slice (some ⟨gT,0,none⟩) (2*C.length+1) cT] 63)).alloc (.cells #[.int .i64 k,.int .i64 x,.int .i64 y,.int .i64 ua,.bool ub,.int .i64 va,.bool vb,.bool ov] 28)).alloc (.cells #[.slice none 0 0,.int .i64 0] 24):=⟨_,rfl⟩
  have HY:Hid (Y=((w.alloc (.cells #[.slice a C.length cap,.int .i64 loops,.slice (some ⟨gF,0,none⟩) (2*C.length+1) cF,.slice (some ⟨gT,0,none⟩) (2*C.length+1) cT] 63)).alloc (.cells #[.int .i64 k,.int .i64 x,.int .i64 y,.int .i64 ua,.bool ub,.int .i64 va,.bool vb,.bool ov] 28)).alloc (.cells #[.slice none 0 0,.int .i64 0] 24)):=hY
  have HBY:Hid (Below w.heap.size w Y):=(by rw[hY];exact QV1 _ _ _ _:Below w.heap.size w Y)
  have HT0:Hid (Y.heap[w.heap.size]?=some (.cells #[.slice a C.length cap,.int .i64 loops,.slice (some ⟨gF,0,none⟩) (2*C.length+1) cF,.slice (some ⟨gT,0,none⟩) (2*C.length+1) cT] 63 (0,0))):=(by rw[hY];exact alloc_old (alloc_old (alloc_at rfl)):Y.heap[w.heap.size]?=some (.cells #[.slice a C.length cap,.int .i64 loops,.slice (some ⟨gF,0,none⟩) (2*C.length+1) cF,.slice (some ⟨gT,0,none⟩) (2*C.length+1) cT] 63 (0,0)))
  have HT1:Hid (Y.heap[w.heap.size+1]?=some (.cells #[.int .i64 k,.int .i64 x,.int .i64 y,.int .i64 ua,.bool ub,.int .i64 va,.bool vb,.bool ov] 28 (0,0))):=(by rw[hY];exact alloc_old (alloc_at (by simp)):Y.heap[w.heap.size+1]?=some (.cells #[.int .i64 k,.int .i64 x,.int .i64 y,.int .i64 ua,.bool ub,.int .i64 va,.bool vb,.bool ov] 28 (0,0)))
  have HT2:Hid (Y.heap[w.heap.size+1+1]?=some (.cells #[.slice none 0 0,.int .i64 0] 24 (0,0))):=(by rw[hY];exact alloc_at (by simp):Y.heap[w.heap.size+1+1]?=some (.cells #[.slice none 0 0,.int .i64 0] 24 (0,0)))
  have hsY:Y.heap.size=w.heap.size+3:=by rw[hY];simp
  clear hY
  clear h hh
  by_cases hy0:0<=y
  · have hy4 : decide (y < 4) = false := by simp; omega
    have hd0:decide (0<=y)=true:=by simpa using hy0
    clear hy
    go_enter Try.func88,Try.ntmps88
    go_wp2_with (first
     |(go_at_call 41;refine(QZ3 3 _).mono ?_;rintro e9 w4 ⟨rfl,e4⟩;obtain rfl:=e4.symm)
     |(go_at_call 41;refine(QK0 3 _).mono ?_;rintro e9 w4 ⟨rfl,e4⟩;obtain rfl:=e4.symm)
     | (go_at_call 104; rw [← HY.out]; refine (HHS.out _).mono ?_; rintro e9 w3 ⟨rfl, hb3⟩
        have HB3:Hid (Below Y.heap.size Y w3):=hb3
        have hs3:=hb3.size
        have q0:=(hb3.block _ (by omega)).trans HT0.out
        have q1:=(hb3.block _ (by omega)).trans HT1.out
        have b0:w3.cell? ⟨w.heap.size,0,none⟩=some (.slice a C.length cap):=QQ0 q0 rfl
        have b1:w3.cell? ⟨w.heap.size,1,none⟩=some (.int .i64 loops):=QQ0 q0 rfl
        have b2:w3.cell? ⟨w.heap.size,2,none⟩=some (.slice (some ⟨gF,0,none⟩) (2*C.length+1) cF):=QQ0 q0 rfl
        have b3:w3.cell? ⟨w.heap.size,3,none⟩=some (.slice (some ⟨gT,0,none⟩) (2*C.length+1) cT):=QQ0 q0 rfl
        have m0:w3.cell? ⟨w.heap.size+1,0,none⟩=some (.int .i64 k):=QQ0 q1 rfl
        have m1:w3.cell? ⟨w.heap.size+1,1,none⟩=some (.int .i64 x):=QQ0 q1 rfl
        have m2:w3.cell? ⟨w.heap.size+1,2,none⟩=some (.int .i64 y):=QQ0 q1 rfl
        have m3:w3.cell? ⟨w.heap.size+1,3,none⟩=some (.int .i64 ua):=QQ0 q1 rfl
        have m4:w3.cell? ⟨w.heap.size+1,4,none⟩=some (.bool ub):=QQ0 q1 rfl
        have m5:w3.cell? ⟨w.heap.size+1,5,none⟩=some (.int .i64 va):=QQ0 q1 rfl
        have m6:w3.cell? ⟨w.heap.size+1,6,none⟩=some (.bool vb):=QQ0 q1 rfl
        have m7:w3.cell? ⟨w.heap.size+1,7,none⟩=some (.bool ov):=QQ0 q1 rfl
        have lb:w.heap.size<w3.heap.size:=by omega
        have lm:w.heap.size+1<w3.heap.size:=by omega
        clear hb3 q0 q1))
    exact⟨rfl,rfl,HBY.out.trans (HB3.out.mono (by omega))⟩
  · have hd0 : decide (0 ≤ y) = false := by simpa using hy0
    clear hy
    go_enter Try.func88,Try.ntmps88
    go_wp2_with (first
     |(go_at_call 41;refine(QZ3 3 _).mono ?_;rintro e9 w4 ⟨rfl,e4⟩;obtain rfl:=e4.symm)
     |(go_at_call 41;refine(QK0 3 _).mono ?_;rintro e9 w4 ⟨rfl,e4⟩;obtain rfl:=e4.symm)
     | (go_at_call 104; rw [← HY.out]; refine (HHS.out _).mono ?_; rintro e9 w3 ⟨rfl, hb3⟩
        have HB3:Hid (Below Y.heap.size Y w3):=hb3
        have hs3:=hb3.size
        have q0:=(hb3.block _ (by omega)).trans HT0.out
        have q1:=(hb3.block _ (by omega)).trans HT1.out
        have b0:w3.cell? ⟨w.heap.size,0,none⟩=some (.slice a C.length cap):=QQ0 q0 rfl
        have b1:w3.cell? ⟨w.heap.size,1,none⟩=some (.int .i64 loops):=QQ0 q0 rfl
        have b2:w3.cell? ⟨w.heap.size,2,none⟩=some (.slice (some ⟨gF,0,none⟩) (2*C.length+1) cF):=QQ0 q0 rfl
        have b3:w3.cell? ⟨w.heap.size,3,none⟩=some (.slice (some ⟨gT,0,none⟩) (2*C.length+1) cT):=QQ0 q0 rfl
        have m0:w3.cell? ⟨w.heap.size+1,0,none⟩=some (.int .i64 k):=QQ0 q1 rfl
        have m1:w3.cell? ⟨w.heap.size+1,1,none⟩=some (.int .i64 x):=QQ0 q1 rfl
        have m2:w3.cell? ⟨w.heap.size+1,2,none⟩=some (.int .i64 y):=QQ0 q1 rfl
        have m3:w3.cell? ⟨w.heap.size+1,3,none⟩=some (.int .i64 ua):=QQ0 q1 rfl
        have m4:w3.cell? ⟨w.heap.size+1,4,none⟩=some (.bool ub):=QQ0 q1 rfl
        have m5:w3.cell? ⟨w.heap.size+1,5,none⟩=some (.int .i64 va):=QQ0 q1 rfl
        have m6:w3.cell? ⟨w.heap.size+1,6,none⟩=some (.bool vb):=QQ0 q1 rfl
        have m7:w3.cell? ⟨w.heap.size+1,7,none⟩=some (.bool ov):=QQ0 q1 rfl
        have lb:w.heap.size<w3.heap.size:=by omega
        have lm:w.heap.size+1<w3.heap.size:=by omega
        clear hb3 q0 q1))
    exact⟨rfl,rfl,HBY.out.trans (HB3.out.mono (by omega))⟩
 | false =>
  have hx2:x=0/\0<loops:=by unfold curlB at h;rw[hh]at h;simpa using h
  obtain⟨hx0,hlo⟩:=hx2
  have d2:decide (0<loops)=true:=by simpa using hlo
  have HHS:Hid (∀ W,Calls Try.prog 104 #[drV a cap C loops gF cF gT cT,.int .i64 x] W fun e w'=>e=.returned (.bool false)/\Below W.heap.size W w'):=fun W=>by have:=has_any a cap C loops gF cF gT cT x W hl;rw[hh]at this;exact this
  unfold drV at HHS ⊢
  obtain⟨Y,hY⟩:∃ Y,Y=((w.alloc (.cells #[.slice a C.length cap,.int .i64 loops,.slice (some ⟨gF,0,none⟩) (2*C.length+1) cF,.slice (some ⟨gT,0,none⟩) (2*C.length+1) cT] 63)).alloc (.cells #[.int .i64 k,.int .i64 x,.int .i64 y,.int .i64 ua,.bool ub,.int .i64 va,.bool vb,.bool ov] 28)).alloc (.cells #[.slice none 0 0,.int .i64 0] 24):=⟨_,rfl⟩
  have HY:Hid (Y=((w.alloc (.cells #[.slice a C.length cap,.int .i64 loops,.slice (some ⟨gF,0,none⟩) (2*C.length+1) cF,.slice (some ⟨gT,0,none⟩) (2*C.length+1) cT] 63)).alloc (.cells #[.int .i64 k,.int .i64 x,.int .i64 y,.int .i64 ua,.bool ub,.int .i64 va,.bool vb,.bool ov] 28)).alloc (.cells #[.slice none 0 0,.int .i64 0] 24)):=hY
  have HBY:Hid (Below w.heap.size w Y):=(by rw[hY];exact QV1 _ _ _ _:Below w.heap.size w Y)
  have HT0:Hid (Y.heap[w.heap.size]?=some (.cells #[.slice a C.length cap,.int .i64 loops,.slice (some ⟨gF,0,none⟩) (2*C.length+1) cF,.slice (some ⟨gT,0,none⟩) (2*C.length+1) cT] 63 (0,0))):=(by rw[hY];exact alloc_old (alloc_old (alloc_at rfl)):Y.heap[w.heap.size]?=some (.cells #[.slice a C.length cap,.int .i64 loops,.slice (some ⟨gF,0,none⟩) (2*C.length+1) cF,.slice (some ⟨gT,0,none⟩) (2*C.length+1) cT] 63 (0,0)))
  have HT1:Hid (Y.heap[w.heap.size+1]?=some (.cells #[.int .i64 k,.int .i64 x,.int .i64 y,.int .i64 ua,.bool ub,.int .i64 va,.bool vb,.bool ov] 28 (0,0))):=(by rw[hY];exact alloc_old (alloc_at (by simp)):Y.heap[w.heap.size+1]?=some (.cells #[.int .i64 k,.int .i64 x,.int .i64 y,.int .i64 ua,.bool ub,.int .i64 va,.bool vb,.bool ov] 28 (0,0)))
  have HT2:Hid (Y.heap[w.heap.size+1+1]?=some (.cells #[.slice none 0 0,.int .i64 0] 24 (0,0))):=(by rw[hY];exact alloc_at (by simp):Y.heap[w.heap.size+1+1]?=some (.cells #[.slice none 0 0,.int .i64 0] 24 (0,0)))
  have hsY:Y.heap.size=w.heap.size+3:=by rw[hY];simp
  clear hY
  clear h hh
  subst hx0
  by_cases hy0:0<=y
  · have hy4 : decide (y < 4) = false := by simp; omega
    have hd0:decide (0<=y)=true:=by simpa using hy0
    clear hy
    go_enter Try.func88,Try.ntmps88
    go_wp2_with (first
     |(go_at_call 41;refine(QZ3 3 _).mono ?_;rintro e9 w4 ⟨rfl,e4⟩;obtain rfl:=e4.symm)
     |(go_at_call 41;refine(QK0 3 _).mono ?_;rintro e9 w4 ⟨rfl,e4⟩;obtain rfl:=e4.symm)
     | (go_at_call 104; rw [← HY.out]; refine (HHS.out _).mono ?_; rintro e9 w3 ⟨rfl, hb3⟩
        have HB3:Hid (Below Y.heap.size Y w3):=hb3
        have hs3:=hb3.size
        have q0:=(hb3.block _ (by omega)).trans HT0.out
        have q1:=(hb3.block _ (by omega)).trans HT1.out
        have b0:w3.cell? ⟨w.heap.size,0,none⟩=some (.slice a C.length cap):=QQ0 q0 rfl
        have b1:w3.cell? ⟨w.heap.size,1,none⟩=some (.int .i64 loops):=QQ0 q0 rfl
        have b2:w3.cell? ⟨w.heap.size,2,none⟩=some (.slice (some ⟨gF,0,none⟩) (2*C.length+1) cF):=QQ0 q0 rfl
        have b3:w3.cell? ⟨w.heap.size,3,none⟩=some (.slice (some ⟨gT,0,none⟩) (2*C.length+1) cT):=QQ0 q0 rfl
        have m0:w3.cell? ⟨w.heap.size+1,0,none⟩=some (.int .i64 k):=QQ0 q1 rfl
        have m1:w3.cell? ⟨w.heap.size+1,1,none⟩=some (.int .i64 0):=QQ0 q1 rfl
        have m2:w3.cell? ⟨w.heap.size+1,2,none⟩=some (.int .i64 y):=QQ0 q1 rfl
        have m3:w3.cell? ⟨w.heap.size+1,3,none⟩=some (.int .i64 ua):=QQ0 q1 rfl
        have m4:w3.cell? ⟨w.heap.size+1,4,none⟩=some (.bool ub):=QQ0 q1 rfl
        have m5:w3.cell? ⟨w.heap.size+1,5,none⟩=some (.int .i64 va):=QQ0 q1 rfl
        have m6:w3.cell? ⟨w.heap.size+1,6,none⟩=some (.bool vb):=QQ0 q1 rfl
        have m7:w3.cell? ⟨w.heap.size+1,7,none⟩=some (.bool ov):=QQ0 q1 rfl
        have lb:w.heap.size<w3.heap.size:=by omega
        have lm:w.heap.size+1<w3.heap.size:=by omega
        clear hb3 q0 q1))
    exact⟨rfl,rfl,HBY.out.trans (HB3.out.mono (by omega))⟩
  · have hd0 : decide (0 ≤ y) = false := by simpa using hy0
    clear hy
    go_enter Try.func88,Try.ntmps88
    go_wp2_with (first
     |(go_at_call 41;refine(QZ3 3 _).mono ?_;rintro e9 w4 ⟨rfl,e4⟩;obtain rfl:=e4.symm)
     |(go_at_call 41;refine(QK0 3 _).mono ?_;rintro e9 w4 ⟨rfl,e4⟩;obtain rfl:=e4.symm)
     | (go_at_call 104; rw [← HY.out]; refine (HHS.out _).mono ?_; rintro e9 w3 ⟨rfl, hb3⟩
        have HB3:Hid (Below Y.heap.size Y w3):=hb3
        have hs3:=hb3.size
        have q0:=(hb3.block _ (by omega)).trans HT0.out
        have q1:=(hb3.block _ (by omega)).trans HT1.out
        have b0:w3.cell? ⟨w.heap.size,0,none⟩=some (.slice a C.length cap):=QQ0 q0 rfl
        have b1:w3.cell? ⟨w.heap.size,1,none⟩=some (.int .i64 loops):=QQ0 q0 rfl
        have b2:w3.cell? ⟨w.heap.size,2,none⟩=some (.slice (some ⟨gF,0,none⟩) (2*C.length+1) cF):=QQ0 q0 rfl
        have b3:w3.cell? ⟨w.heap.size,3,none⟩=some (.slice (some ⟨gT,0,none⟩) (2*C.length+1) cT):=QQ0 q0 rfl
        have m0:w3.cell? ⟨w.heap.size+1,0,none⟩=some (.int .i64 k):=QQ0 q1 rfl
        have m1:w3.cell? ⟨w.heap.size+1,1,none⟩=some (.int .i64 0):=QQ0 q1 rfl
        have m2:w3.cell? ⟨w.heap.size+1,2,none⟩=some (.int .i64 y):=QQ0 q1 rfl
        have m3:w3.cell? ⟨w.heap.size+1,3,none⟩=some (.int .i64 ua):=QQ0 q1 rfl
        have m4:w3.cell? ⟨w.heap.size+1,4,none⟩=some (.bool ub):=QQ0 q1 rfl
        have m5:w3.cell? ⟨w.heap.size+1,5,none⟩=some (.int .i64 va):=QQ0 q1 rfl
        have m6:w3.cell? ⟨w.heap.size+1,6,none⟩=some (.bool vb):=QQ0 q1 rfl
        have m7:w3.cell? ⟨w.heap.size+1,7,none⟩=some (.bool ov):=QQ0 q1 rfl
        have lb:w.heap.size<w3.heap.size:=by omega
        have lm:w.heap.size+1<w3.heap.size:=by omega
        clear hb3 q0 q1))
    exact⟨rfl,rfl,HBY.out.trans (HB3.out.mono (by omega))⟩
theorem curl_no3 (a:Option Addr) (cap:Nat) (C:List Cr) (loops:Int) (gF cF gT cT:Nat) (k x y ua va:Int) (ub vb ov:Bool) (w:World) (hl:C.length<=16) (h:curlB C loops x=true) (h0:0<=y) (h4:y<4) (hn:¬ (C.length:Int)<16):
    Calls Try.prog 88 #[drV a cap C loops gF cF gT cT,mvV k x y ua ub va vb ov] w fun e w'=>e=.panicked (QZ7 2)/\Below w.heap.size w w':=by
 unfold mvV
 cases hh : hasB C x with
 | true =>
  have HHS:Hid (∀ W,Calls Try.prog 104 #[drV a cap C loops gF cF gT cT,.int .i64 x] W fun e w'=>e=.returned (.bool true)/\Below W.heap.size W w'):=fun W=>by have:=has_any a cap C loops gF cF gT cT x W hl;rw[hh]at this;exact this
  unfold drV at HHS ⊢
  obtain⟨Y,hY⟩:∃ Y,Y=((w.alloc (.cells #[.slice a C.length cap,.int .i64 loops,.slice (some ⟨gF,0,none⟩) (2*C.length+1) cF,.slice (some ⟨gT,0,none⟩) (2*C.length+1) cT] 63)).alloc (.cells #[.int .i64 k,.int .i64 x,.int .i64 y,.int .i64 ua,.bool ub,.int .i64 va,.bool vb,.bool ov] 28)).alloc (.cells #[.slice none 0 0,.int .i64 0] 24):=⟨_,rfl⟩
  have HY:Hid (Y=((w.alloc (.cells #[.slice a C.length cap,.int .i64 loops,.slice (some ⟨gF,0,none⟩) (2*C.length+1) cF,.slice (some ⟨gT,0,none⟩) (2*C.length+1) cT] 63)).alloc (.cells #[.int .i64 k,.int .i64 x,.int .i64 y,.int .i64 ua,.bool ub,.int .i64 va,.bool vb,.bool ov] 28)).alloc (.cells #[.slice none 0 0,.int .i64 0] 24)):=hY
  have HBY:Hid (Below w.heap.size w Y):=(by rw[hY];exact QV1 _ _ _ _:Below w.heap.size w Y)
  have HT0:Hid (Y.heap[w.heap.size]?=some (.cells #[.slice a C.length cap,.int .i64 loops,.slice (some ⟨gF,0,none⟩) (2*C.length+1) cF,.slice (some ⟨gT,0,none⟩) (2*C.length+1) cT] 63 (0,0))):=(by rw[hY];exact alloc_old (alloc_old (alloc_at rfl)):Y.heap[w.heap.size]?=some (.cells #[.slice a C.length cap,.int .i64 loops,.slice (some ⟨gF,0,none⟩) (2*C.length+1) cF,.slice (some ⟨gT,0,none⟩) (2*C.length+1) cT] 63 (0,0)))
  have HT1:Hid (Y.heap[w.heap.size+1]?=some (.cells #[.int .i64 k,.int .i64 x,.int .i64 y,.int .i64 ua,.bool ub,.int .i64 va,.bool vb,.bool ov] 28 (0,0))):=(by rw[hY];exact alloc_old (alloc_at (by simp)):Y.heap[w.heap.size+1]?=some (.cells #[.int .i64 k,.int .i64 x,.int .i64 y,.int .i64 ua,.bool ub,.int .i64 va,.bool vb,.bool ov] 28 (0,0)))
  have HT2:Hid (Y.heap[w.heap.size+1+1]?=some (.cells #[.slice none 0 0,.int .i64 0] 24 (0,0))):=(by rw[hY];exact alloc_at (by simp):Y.heap[w.heap.size+1+1]?=some (.cells #[.slice none 0 0,.int .i64 0] 24 (0,0)))
  have hsY:Y.heap.size=w.heap.size+3:=by rw[hY];simp
  clear hY
  clear h hh
  have hn6:decide ((C.length:Int)<16)=false:=by simpa using hn
  have hd0:decide (0<=y)=true:=by simpa using h0
  have hd4:decide (y<4)=true:=by simpa using h4
  go_enter Try.func88,Try.ntmps88
  go_wp2_with (first
   |(go_at_call 41;refine(QZ3 3 _).mono ?_;rintro e9 w4 ⟨rfl,e4⟩;obtain rfl:=e4.symm)
   |(go_at_call 41;refine(QK0 2 _).mono ?_;rintro e9 w4 ⟨rfl,e4⟩;obtain rfl:=e4.symm)
   | (go_at_call 104; rw [← HY.out]; refine (HHS.out _).mono ?_; rintro e9 w3 ⟨rfl, hb3⟩
      have HB3:Hid (Below Y.heap.size Y w3):=hb3
      have hs3:=hb3.size
      have q0:=(hb3.block _ (by omega)).trans HT0.out
      have q1:=(hb3.block _ (by omega)).trans HT1.out
      have b0:w3.cell? ⟨w.heap.size,0,none⟩=some (.slice a C.length cap):=QQ0 q0 rfl
      have b1:w3.cell? ⟨w.heap.size,1,none⟩=some (.int .i64 loops):=QQ0 q0 rfl
      have b2:w3.cell? ⟨w.heap.size,2,none⟩=some (.slice (some ⟨gF,0,none⟩) (2*C.length+1) cF):=QQ0 q0 rfl
      have b3:w3.cell? ⟨w.heap.size,3,none⟩=some (.slice (some ⟨gT,0,none⟩) (2*C.length+1) cT):=QQ0 q0 rfl
      have m0:w3.cell? ⟨w.heap.size+1,0,none⟩=some (.int .i64 k):=QQ0 q1 rfl
      have m1:w3.cell? ⟨w.heap.size+1,1,none⟩=some (.int .i64 x):=QQ0 q1 rfl
      have m2:w3.cell? ⟨w.heap.size+1,2,none⟩=some (.int .i64 y):=QQ0 q1 rfl
      have m3:w3.cell? ⟨w.heap.size+1,3,none⟩=some (.int .i64 ua):=QQ0 q1 rfl
      have m4:w3.cell? ⟨w.heap.size+1,4,none⟩=some (.bool ub):=QQ0 q1 rfl
      have m5:w3.cell? ⟨w.heap.size+1,5,none⟩=some (.int .i64 va):=QQ0 q1 rfl
      have m6:w3.cell? ⟨w.heap.size+1,6,none⟩=some (.bool vb):=QQ0 q1 rfl
      have m7:w3.cell? ⟨w.heap.size+1,7,none⟩=some (.bool ov):=QQ0 q1 rfl
      have lb:w.heap.size<w3.heap.size:=by omega
      have lm:w.heap.size+1<w3.heap.size:=by omega
      clear hb3 q0 q1))
  exact⟨rfl,rfl,HBY.out.trans (HB3.out.mono (by omega))⟩
 | false =>
  have hx2:x=0/\0<loops:=by unfold curlB at h;rw[hh]at h;simpa using h
  obtain⟨hx0,hlo⟩:=hx2
  have d2:decide (0<loops)=true:=by simpa using hlo
  have HHS:Hid (∀ W,Calls Try.prog 104 #[drV a cap C loops gF cF gT cT,.int .i64 x] W fun e w'=>e=.returned (.bool false)/\Below W.heap.size W w'):=fun W=>by have:=has_any a cap C loops gF cF gT cT x W hl;rw[hh]at this;exact this
  unfold drV at HHS ⊢
  obtain⟨Y,hY⟩:∃ Y,Y=((w.alloc (.cells #[.slice a C.length cap,.int .i64 loops,.slice (some ⟨gF,0,none⟩) (2*C.length+1) cF,.slice (some ⟨gT,0,none⟩) (2*C.length+1) cT] 63)).alloc (.cells #[.int .i64 k,.int .i64 x,.int .i64 y,.int .i64 ua,.bool ub,.int .i64 va,.bool vb,.bool ov] 28)).alloc (.cells #[.slice none 0 0,.int .i64 0] 24):=⟨_,rfl⟩
  have HY:Hid (Y=((w.alloc (.cells #[.slice a C.length cap,.int .i64 loops,.slice (some ⟨gF,0,none⟩) (2*C.length+1) cF,.slice (some ⟨gT,0,none⟩) (2*C.length+1) cT] 63)).alloc (.cells #[.int .i64 k,.int .i64 x,.int .i64 y,.int .i64 ua,.bool ub,.int .i64 va,.bool vb,.bool ov] 28)).alloc (.cells #[.slice none 0 0,.int .i64 0] 24)):=hY
  have HBY:Hid (Below w.heap.size w Y):=(by rw[hY];exact QV1 _ _ _ _:Below w.heap.size w Y)
  have HT0:Hid (Y.heap[w.heap.size]?=some (.cells #[.slice a C.length cap,.int .i64 loops,.slice (some ⟨gF,0,none⟩) (2*C.length+1) cF,.slice (some ⟨gT,0,none⟩) (2*C.length+1) cT] 63 (0,0))):=(by rw[hY];exact alloc_old (alloc_old (alloc_at rfl)):Y.heap[w.heap.size]?=some (.cells #[.slice a C.length cap,.int .i64 loops,.slice (some ⟨gF,0,none⟩) (2*C.length+1) cF,.slice (some ⟨gT,0,none⟩) (2*C.length+1) cT] 63 (0,0)))
  have HT1:Hid (Y.heap[w.heap.size+1]?=some (.cells #[.int .i64 k,.int .i64 x,.int .i64 y,.int .i64 ua,.bool ub,.int .i64 va,.bool vb,.bool ov] 28 (0,0))):=(by rw[hY];exact alloc_old (alloc_at (by simp)):Y.heap[w.heap.size+1]?=some (.cells #[.int .i64 k,.int .i64 x,.int .i64 y,.int .i64 ua,.bool ub,.int .i64 va,.bool vb,.bool ov] 28 (0,0)))
  have HT2:Hid (Y.heap[w.heap.size+1+1]?=some (.cells #[.slice none 0 0,.int .i64 0] 24 (0,0))):=(by rw[hY];exact alloc_at (by simp):Y.heap[w.heap.size+1+1]?=some (.cells #[.slice none 0 0,.int .i64 0] 24 (0,0)))
  have hsY:Y.heap.size=w.heap.size+3:=by rw[hY];simp
  clear hY
  clear h hh
  subst hx0
  have hn6:decide ((C.length:Int)<16)=false:=by simpa using hn
  have hd0:decide (0<=y)=true:=by simpa using h0
  have hd4:decide (y<4)=true:=by simpa using h4
  go_enter Try.func88,Try.ntmps88
  go_wp2_with (first
   |(go_at_call 41;refine(QZ3 3 _).mono ?_;rintro e9 w4 ⟨rfl,e4⟩;obtain rfl:=e4.symm)
   |(go_at_call 41;refine(QK0 2 _).mono ?_;rintro e9 w4 ⟨rfl,e4⟩;obtain rfl:=e4.symm)
   | (go_at_call 104; rw [← HY.out]; refine (HHS.out _).mono ?_; rintro e9 w3 ⟨rfl, hb3⟩
      have HB3:Hid (Below Y.heap.size Y w3):=hb3
      have hs3:=hb3.size
      have q0:=(hb3.block _ (by omega)).trans HT0.out
      have q1:=(hb3.block _ (by omega)).trans HT1.out
      have b0:w3.cell? ⟨w.heap.size,0,none⟩=some (.slice a C.length cap):=QQ0 q0 rfl
      have b1:w3.cell? ⟨w.heap.size,1,none⟩=some (.int .i64 loops):=QQ0 q0 rfl
      have b2:w3.cell? ⟨w.heap.size,2,none⟩=some (.slice (some ⟨gF,0,none⟩) (2*C.length+1) cF):=QQ0 q0 rfl
      have b3:w3.cell? ⟨w.heap.size,3,none⟩=some (.slice (some ⟨gT,0,none⟩) (2*C.length+1) cT):=QQ0 q0 rfl
      have m0:w3.cell? ⟨w.heap.size+1,0,none⟩=some (.int .i64 k):=QQ0 q1 rfl
      have m1:w3.cell? ⟨w.heap.size+1,1,none⟩=some (.int .i64 0):=QQ0 q1 rfl
      have m2:w3.cell? ⟨w.heap.size+1,2,none⟩=some (.int .i64 y):=QQ0 q1 rfl
      have m3:w3.cell? ⟨w.heap.size+1,3,none⟩=some (.int .i64 ua):=QQ0 q1 rfl
      have m4:w3.cell? ⟨w.heap.size+1,4,none⟩=some (.bool ub):=QQ0 q1 rfl
      have m5:w3.cell? ⟨w.heap.size+1,5,none⟩=some (.int .i64 va):=QQ0 q1 rfl
      have m6:w3.cell? ⟨w.heap.size+1,6,none⟩=some (.bool vb):=QQ0 q1 rfl
      have m7:w3.cell? ⟨w.heap.size+1,7,none⟩=some (.bool ov):=QQ0 q1 rfl
      have lb:w.heap.size<w3.heap.size:=by omega
      have lm:w.heap.size+1<w3.heap.size:=by omega
      clear hb3 q0 q1))
  exact⟨rfl,rfl,HBY.out.trans (HB3.out.mono (by omega))⟩
end Go.Proofs.Ytagaajlbkfkaiaa
/- The three boxes of a move's own function. -/
namespace Go.Proofs.Ytagaajlbkfkaiaa
open Go.RowKit
def BmAt (w W:World) (a:Option Addr) (cap:Nat) (C:List Cr) (loops:Int) (gF cF gT cT:Nat) (k x y ua va:Int) (ub vb ov:Bool):Prop:=(W.heap[w.heap.size]?=some (.cells #[.slice a C.length cap,.int .i64 loops,.slice (some ⟨gF,0,none⟩) (2*C.length+1) cF,.slice (some ⟨gT,0,none⟩) (2*C.length+1) cT] 63 (0,0))/\W.heap[w.heap.size+1]?=some (.cells #[.int .i64 k,.int .i64 x,.int .i64 y,.int .i64 ua,.bool ub,.int .i64 va,.bool vb,.bool ov] 28 (0,0))/\W.heap[w.heap.size+1+1]?=some (.cells #[.slice none 0 0,.int .i64 0] 24 (0,0)))/\(w.heap.size<W.heap.size/\w.heap.size+1<W.heap.size/\w.heap.size+1+1<W.heap.size)
theorem bm_ex (w:World) (a:Option Addr) (cap:Nat) (C:List Cr) (loops:Int) (gF cF gT cT:Nat) (k x y ua va:Int) (ub vb ov:Bool):∃ Y,((w.alloc (.cells #[.slice a C.length cap,.int .i64 loops,.slice (some ⟨gF,0,none⟩) (2*C.length+1) cF,.slice (some ⟨gT,0,none⟩) (2*C.length+1) cT] 63)).alloc (.cells #[.int .i64 k,.int .i64 x,.int .i64 y,.int .i64 ua,.bool ub,.int .i64 va,.bool vb,.bool ov] 28)).alloc (.cells #[.slice none 0 0,.int .i64 0] 24)=Y/\Below w.heap.size w Y/\BmAt w Y a cap C loops gF cF gT cT k x y ua va ub vb ov/\w.heap.size+3<=Y.heap.size:=
 ⟨_,rfl,QV1 _ _ _ _,⟨⟨alloc_old (alloc_old (alloc_at rfl)),alloc_old (alloc_at (by simp)),alloc_at (by simp)⟩,by simp;omega⟩,by simp⟩
theorem bm_ce {w Y:World} {a:Option Addr} {cap:Nat} {C:List Cr} {loops:Int} {gF cF gT cT:Nat} {k x y ua va:Int} {ub vb ov:Bool} (h:BmAt w Y a cap C loops gF cF gT cT k x y ua va ub vb ov) (W:World) (hW:Below Y.heap.size Y W):(W.heap[w.heap.size]?=some (.cells #[.slice a C.length cap,.int .i64 loops,.slice (some ⟨gF,0,none⟩) (2*C.length+1) cF,.slice (some ⟨gT,0,none⟩) (2*C.length+1) cT] 63 (0,0))/\W.heap[w.heap.size+1]?=some (.cells #[.int .i64 k,.int .i64 x,.int .i64 y,.int .i64 ua,.bool ub,.int .i64 va,.bool vb,.bool ov] 28 (0,0))/\W.heap[w.heap.size+1+1]?=some (.cells #[.slice none 0 0,.int .i64 0] 24 (0,0)))/\(w.heap.size<W.heap.size/\w.heap.size+1<W.heap.size/\w.heap.size+1+1<W.heap.size):=by
 have hl {k:Nat} {o:Obj} (e:Y.heap[k]?=some o):W.heap[k]?=some o:=(hW.block _ (Array.getElem?_eq_some_iff.1 e).1).trans e
 have hs:=hW.size
 exact⟨⟨hl h.1.1,hl h.1.2.1,hl h.1.2.2⟩,Nat.lt_of_lt_of_le h.2.1 hs,Nat.lt_of_lt_of_le h.2.2.1 hs,Nat.lt_of_lt_of_le h.2.2.2 hs⟩
theorem QX3 {w W:World} {a:Option Addr} {cap:Nat} {C:List Cr} {loops:Int} {gF cF gT cT:Nat} {k x y ua va:Int} {ub vb ov:Bool} (h:(W.heap[w.heap.size]?=some (.cells #[.slice a C.length cap,.int .i64 loops,.slice (some ⟨gF,0,none⟩) (2*C.length+1) cF,.slice (some ⟨gT,0,none⟩) (2*C.length+1) cT] 63 (0,0))/\W.heap[w.heap.size+1]?=some (.cells #[.int .i64 k,.int .i64 x,.int .i64 y,.int .i64 ua,.bool ub,.int .i64 va,.bool vb,.bool ov] 28 (0,0))/\W.heap[w.heap.size+1+1]?=some (.cells #[.slice none 0 0,.int .i64 0] 24 (0,0)))/\(w.heap.size<W.heap.size/\w.heap.size+1<W.heap.size/\w.heap.size+1+1<W.heap.size)):w.heap.size<W.heap.size/\w.heap.size+1<W.heap.size/\w.heap.size+1+1<W.heap.size/\W.cell? ⟨w.heap.size,0,none⟩=some (.slice a C.length cap)/\W.cell? ⟨w.heap.size,1,none⟩=some (.int .i64 loops)/\W.cell? ⟨w.heap.size,2,none⟩=some (.slice (some ⟨gF,0,none⟩) (2*C.length+1) cF)/\W.cell? ⟨w.heap.size,3,none⟩=some (.slice (some ⟨gT,0,none⟩) (2*C.length+1) cT)/\W.cell? ⟨w.heap.size+1,0,none⟩=some (.int .i64 k)/\W.cell? ⟨w.heap.size+1,1,none⟩=some (.int .i64 x)/\W.cell? ⟨w.heap.size+1,2,none⟩=some (.int .i64 y)/\W.cell? ⟨w.heap.size+1,3,none⟩=some (.int .i64 ua)/\W.cell? ⟨w.heap.size+1,4,none⟩=some (.bool ub)/\W.cell? ⟨w.heap.size+1,5,none⟩=some (.int .i64 va)/\W.cell? ⟨w.heap.size+1,6,none⟩=some (.bool vb)/\W.cell? ⟨w.heap.size+1,7,none⟩=some (.bool ov)/\W.cell? ⟨w.heap.size+1+1,0,none⟩=some (.slice none 0 0)/\W.cell? ⟨w.heap.size+1+1,1,none⟩=some (.int .i64 0)/\W.frozen? ⟨w.heap.size+1+1,0,none⟩=false/\W.frozen? ⟨w.heap.size+1+1,1,none⟩=false:=
 ⟨h.2.1,h.2.2.1,h.2.2.2,QQ0 h.1.1 rfl,QQ0 h.1.1 rfl,QQ0 h.1.1 rfl,QQ0 h.1.1 rfl,QQ0 h.1.2.1 rfl,QQ0 h.1.2.1 rfl,QQ0 h.1.2.1 rfl,QQ0 h.1.2.1 rfl,QQ0 h.1.2.1 rfl,QQ0 h.1.2.1 rfl,QQ0 h.1.2.1 rfl,QQ0 h.1.2.1 rfl,QQ0 h.1.2.2 rfl,QQ0 h.1.2.2 rfl,QQ2 h.1.2.2,QQ2 h.1.2.2⟩
end Go.Proofs.Ytagaajlbkfkaiaa
