/- A list of terms in memory, and the walk of the copy (knotworklaw.terms). -/
import Derived.Test.YtgagenmkpmmpfaaPT3
import Derived.Laws.AppendOwnNone
import Derived.OwnWalk
namespace Go.Proofs.Ytgagenmkpmmpfaa.Poly
open Go.RowKit
def flat (l:List (Int×Int)):List Value:=l.flatMap fun t=>[.int .i64 t.1,.int .i64 t.2]
theorem flat_length (l:List (Int×Int)):(flat l).length=l.length*2:=by
 induction l with
 |nil=>rfl
 |cons t l ih=>simp[flat]at *;omega
theorem flat_append (l m:List (Int×Int)):flat (l++m)=flat l++flat m:=by simp[flat]
theorem flat_get (l : List (Int × Int)) (i : Nat) (hi : i < l.length) :
    (flat l)[i*2]?=some (.int .i64 (l.getD i (0,0)).1)/\(flat l)[i*2+1]?=some (.int .i64 (l.getD i (0,0)).2):=by
 induction l generalizing i with
 |nil=>simp at hi
 |cons t l ih=>
  cases i with
  |zero=>simp[flat]
  |succ i=>
   have:=ih i (by simpa using hi)
   simp only[flat,List.flatMap_cons]at this ⊢
   rw[List.getElem?_append_right (by simp;omega),List.getElem?_append_right (by simp;omega)]
   simpa[show(i+1)*2-2=i*2 by omega,show(i+1)*2+1-2=i*2+1 by omega] using this
def Poly (w:World) (B:Nat) (v:Value) (l:List (Int×Int)):Prop:=
 (v=.slice none 0 0/\l=[])∨(∃ a cap,v=.slice (some a) 0 cap/\l=[])∨∃ b off cap,v=.slice (some ⟨b,off,none⟩) l.length cap/\b<B/\TermsAt w b off l
theorem Poly.on {w w':World} {B:Nat} {v:Value} {l:List (Int×Int)} (h:Poly w B v l) (hb:Below B w w'):Poly w' B v l:=by
 rcases h with h|h|⟨b,off,cap,hv,hlt,hT⟩
 · exact Or.inl h
 · exact Or.inr (Or.inl h)
 · exact Or.inr (Or.inr ⟨b,off,cap,hv,hlt,hT.on hb hlt⟩)
theorem Poly.mono {w:World} {B B':Nat} {v:Value} {l:List (Int×Int)} (h:Poly w B v l) (hB:B<=B'):Poly w B' v l:=by
 rcases h with h|h|⟨b,off,cap,hv,hlt,hT⟩
 · exact Or.inl h
 · exact Or.inr (Or.inl h)
 · exact Or.inr (Or.inr ⟨b,off,cap,hv,by omega,hT⟩)
theorem Poly.ofRow {w:World} {base:Nat} {e:TypeId} {v:Value} {l:List (Int×Int)} (h:w.ownsRow base e 2 v l.length (flat l)):Poly w w.heap.size v l:=by
 have h0:=h
 rcases h.2 with⟨hv,hn⟩|⟨g,cap,cur,hv,hg,hh,_⟩
 · exact Or.inl ⟨hv,List.length_eq_zero_iff.1 hn⟩
 · subst hv
   refine Or.inr (Or.inr ⟨g,0,cap,rfl,?_,?_⟩)
   · rcases Nat.lt_or_ge g w.heap.size with h|h
     · exact h
     · rw[Array.getElem?_eq_none h]at hh;cases hh
   · intro i hi
     have g0:=flat_get l i hi
     rw[Nat.zero_add]
     exact⟨(h0.cellAt (i*2) (by omega)).trans g0.1,(h0.cellAt (i*2+1) (by omega)).trans g0.2⟩
theorem infoTerm:(Try.prog.info? 95).map (fun i=>(i.zero,i.size,i.bytes))=some (some (.agg #[.int .i64 0,.int .i64 0]),2,16):=by kernel_rfl
end Go.Proofs.Ytgagenmkpmmpfaa.Poly
