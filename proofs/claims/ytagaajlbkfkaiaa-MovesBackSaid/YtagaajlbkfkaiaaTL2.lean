/- Maps from spots to spots; the walks of tangle.ties.tie, lead and join. -/
import Derived.Test.YtagaajlbkfkaiaaBaseP
import Derived.Maps.OwnOps
import Derived.Maps.OwnSet
import Derived.DeepKeys4
namespace Go.Proofs.Ytagaajlbkfkaiaa
open Go.RowKit Go.Maps
def spV (x:Nat):Value:=.agg #[.int .i64 (((x / 4:Nat):Int)-1),.int .i64 ((x%4:Nat):Int)]
def spD (x:Nat):DataW Unit:=.agg [.lit (.int .i64 (((x / 4:Nat):Int)-1)),.lit (.int .i64 ((x%4:Nat):Int))]
def spR (v:Value):Option (DataW Unit×List MemPlace):=
 match v with
 |.agg cs=>match cs.toList with
  |[.int .i64 a,.int .i64 b]=>some (.agg [.lit (.int .i64 a),.lit (.int .i64 b)],[])
  |_=>none
 |_=>none
theorem spV_inj {x y:Nat} (h:spV x=spV y):x=y:=by
 unfold spV at h
 simp only[Value.agg.injEq,Array.mk.injEq,List.cons.injEq,Value.int.injEq,and_true,true_and]at h
 omega
theorem lawS:Keyed Try.prog 120:=Keyed.of_law (deep_law_laid (by kernel_rfl) (m:=5) (by decide) (by decide +kernel) (by kernel_rfl) (by kernel_rfl))
theorem keyS_all:((List.range 80).all fun x=>(keyOf Try.prog 120 (spV x)).isSome)=true:=by decide +kernel
theorem keyS {x:Nat} (h:x<80):∃ l,keyOf Try.prog 120 (spV x)=some l:=by
 have:=List.all_eq_true.1 keyS_all x (List.mem_range.2 h)
 exact Option.isSome_iff_exists.1 this
def MapT (W:World) (b m:Nat) (S:Nat->Prop) (T:Nat->Nat):Prop:=∃ D,W.ownsMap Try.prog 120 spR b m D/\∀ x l,S x->keyOf Try.prog 120 (spV x)=some l->∀ zd,D.atKey l zd=spD (T x)
theorem MapT.kept {W W':World} {b m:Nat} {S:Nat->Prop} {T:Nat->Nat} {row:Option Nat} (h:MapT W b m S T) (hg:W.grownBy W' row) (hne:some b≠row):MapT W' b m S T:=by
 obtain⟨D,h1,h2⟩:=h
 exact⟨D,h1.kept hg hne,h2⟩
theorem MapT.lt {W:World} {b m:Nat} {S:Nat->Prop} {T:Nat->Nat} (h:MapT W b m S T):b<W.heap.size:=by
 obtain⟨D,h1,h2⟩:=h
 exact h1.lt
theorem MapT.congr {W:World} {b m m':Nat} {S S':Nat->Prop} {T T':Nat->Nat} (h:MapT W b m S T) (hm:m<=m') (hS:∀ x,S' x->S x/\T' x=T x):MapT W b m' S' T':=by
 obtain⟨D,h1,h2⟩:=h
 exact⟨D,h1.mono hm,fun x l hx hl zd=>by rw[(hS x hx).2];exact h2 x l (hS x hx).1 hl zd⟩
end Go.Proofs.Ytagaajlbkfkaiaa
