/- Several texts of the proof, one behind the other. -/

/- Polynomials in form, as lists: exponents rise, no coefficient is 0; such a list is told by its coefficients. Plain mathematics: no program is named here. -/
namespace Go.Proofs.Ytefooihnoajnlaa.Poly
def Canon (l:List (Int×Int)) (f:Int->Int):Prop:=l.Pairwise (fun a b=>a.1<b.1)/\∀ x c,(x,c)∈l↔(f x=c/\c≠0)
theorem canon_unique:∀ {l m:List (Int×Int)} {f:Int->Int},Canon l f->Canon m f->l=m:=by
 intro l
 induction l with
 |nil=>
  intro m f h1 h2
  cases m with
  |nil=>rfl
  |cons b m=>
   have:=(h1.2 b.1 b.2).2 ((h2.2 b.1 b.2).1 (by simp))
   cases this
 |cons a l ih=>
  intro m f h1 h2
  cases m with
  |nil=>
   have:=(h2.2 a.1 a.2).2 ((h1.2 a.1 a.2).1 (by simp))
   cases this
  |cons b m=>
   have ha:a∈b::m:=(h2.2 a.1 a.2).2 ((h1.2 a.1 a.2).1 (by simp))
   have hb:b∈a::l:=(h1.2 b.1 b.2).2 ((h2.2 b.1 b.2).1 (by simp))
   have s1:=List.pairwise_cons.1 h1.1
   have s2:=List.pairwise_cons.1 h2.1
   have hab:a=b:=by
    rcases List.mem_cons.1 ha with h|h
    · exact h
    · rcases List.mem_cons.1 hb with h'|h'
      · exact h'.symm
      · have q1:=s1.1 b h'
        have q2:=s2.1 a h
        omega
   subst hab
   congr 1
   -- the tails: both in form for f struck at a's exponent
   refine ih (f:=fun x=>if x=a.1 then 0 else f x) ⟨s1.2,fun x c=>?_⟩ ⟨s2.2,fun x c=>?_⟩
   · have h:=h1.2 x c
     by_cases hx:x=a.1
     · subst hx
       simp only[if_true]
       constructor
       · intro hm
         have:=s1.1 _ hm
         simp at this
       · rintro⟨rfl,hc⟩
         exact absurd rfl hc
     · simp only[if_neg hx]
       rw[<-h]
       constructor
       · intro hm
         exact List.mem_cons_of_mem _ hm
       · intro hm
         rcases List.mem_cons.1 hm with h'|h'
         · exact absurd (by rw[<-h']) hx
         · exact h'
   · have h:=h2.2 x c
     by_cases hx:x=a.1
     · subst hx
       simp only[if_true]
       constructor
       · intro hm
         have:=s2.1 _ hm
         simp at this
       · rintro⟨rfl,hc⟩
         exact absurd rfl hc
     · simp only[if_neg hx]
       rw[<-h]
       constructor
       · intro hm
         exact List.mem_cons_of_mem _ hm
       · intro hm
         rcases List.mem_cons.1 hm with h'|h'
         · exact absurd (by rw[<-h']) hx
         · exact h'
theorem canon_congr {l:List (Int×Int)} {f g:Int->Int} (h:Canon l f) (e:∀ x,f x=g x):Canon l g:=⟨h.1,fun x c=>by rw[h.2,e]⟩
theorem rising_of {l acc:List (Int×Int)} (hp:l.Perm acc) (hs:l.Pairwise (fun a b=>a.1<=b.1)) (hn:acc.Pairwise (fun a b=>a.1≠b.1)):l.Pairwise (fun a b=>a.1<b.1):=by
 have hn':l.Pairwise (fun a b=>a.1≠b.1):=(hp.pairwise_iff (fun {a b} h=>Ne.symm h)).2 hn
 have:=hs.and hn'
 exact this.imp fun⟨h1,h2⟩=>by omega
def coefL:List (Int×Int)->Int->Int
 |[],_=>0
 |t::ts,x=>(if t.1=x then t.2 else 0)+coefL ts x
theorem coefL_append (a b:List (Int×Int)) (x:Int):coefL (a++b) x=coefL a x+coefL b x:=by
 induction a with
 |nil=>simp[coefL]
 |cons t a ih=>simp only[List.cons_append,coefL,ih];omega
theorem coefL_take (ts:List (Int×Int)) (k:Nat) (hk:k<ts.length) (x:Int):coefL (ts.take (k+1)) x=coefL (ts.take k) x+(if(ts.getD k (0,0)).1=x then(ts.getD k (0,0)).2 else 0):=by
 rw[List.take_succ_eq_append_getElem hk,coefL_append]
 have g:ts.getD k (0,0)=ts[k]:=by simp[List.getD,hk]
 rw[g]
 simp[coefL]
theorem coefL_zero (ts:List (Int×Int)) (x:Int) (h:∀ t∈ts,t.1≠x):coefL ts x=0:=by
 induction ts with
 |nil=>rfl
 |cons t ts ih=>
  simp only[coefL]
  rw[if_neg (h t (by simp)),ih fun t ht=>h t (List.mem_cons_of_mem _ ht)]
  rfl
theorem coefL_mem {ts:List (Int×Int)} (hn:ts.Pairwise (fun a b=>a.1≠b.1)) (hz:∀ t∈ts,t.2≠0) (x c:Int):(x,c)∈ts↔(coefL ts x=c/\c≠0):=by
 induction ts with
 |nil=>
  simp only[List.not_mem_nil,false_iff,coefL]
  rintro⟨rfl,h⟩
  exact h rfl
 |cons t ts ih=>
  have hp:=List.pairwise_cons.1 hn
  have ih:=ih hp.2 fun t ht=>hz t (List.mem_cons_of_mem _ ht)
  simp only[coefL,List.mem_cons]
  by_cases hx:t.1=x
  · subst hx
    have h0:=coefL_zero ts t.1 fun s hs=>(hp.1 s hs).symm
    rw[if_pos rfl,h0,Int.add_zero]
    constructor
    · rintro(h|h)
      · have hc:c=t.2:=congrArg Prod.snd h
        rw[hc];exact⟨rfl,hz t (by simp)⟩
      · exact absurd rfl (hp.1 (t.1,c) h)
    · rintro⟨rfl,_⟩
      exact Or.inl rfl
  · rw[if_neg hx,Int.zero_add,<-ih]
    constructor
    · rintro(h|h)
      · exact absurd (by rw[<-h]) hx
      · exact h
    · exact Or.inr
theorem canon_self {l:List (Int×Int)} (hs:l.Pairwise (fun a b=>a.1<b.1)) (hz:∀ t∈l,t.2≠0):Canon l (coefL l):=
 ⟨hs,fun x c=>coefL_mem (hs.imp fun h=>by omega) hz x c⟩
end Go.Proofs.Ytefooihnoajnlaa.Poly
/- A term put into a list in form: plain mathematics. -/
namespace Go.Proofs.Ytefooihnoajnlaa.Poly
def ahead (l:List (Int×Int)) (e:Int):Nat:=(l.takeWhile fun t=>decide (t.1<e)).length
theorem ahead_le (l:List (Int×Int)) (e:Int):ahead l e<=l.length:=by
 unfold ahead
 exact List.Sublist.length_le (List.takeWhile_sublist _)
theorem ahead_lt (l:List (Int×Int)) (e:Int) (i:Nat) (hi:i<ahead l e):(l.getD i (0,0)).1<e:=by
 induction l generalizing i with
 |nil=>simp[ahead]at hi
 |cons t l ih=>
  by_cases h:t.1<e
  · cases i with
    |zero=>simpa using h
    |succ i=>
     have:i<ahead l e:=by
      unfold ahead at hi ⊢
      rw[List.takeWhile_cons_of_pos (by simpa using h)]at hi
      simpa using hi
     simpa using ih i this
  · unfold ahead at hi
    rw[List.takeWhile_cons_of_neg (by simpa using h)]at hi
    simp at hi
theorem ahead_ge (l:List (Int×Int)) (e:Int) (h:ahead l e<l.length):e<=(l.getD (ahead l e) (0,0)).1:=by
 induction l with
 |nil=>simp at h
 |cons t l ih=>
  by_cases ht:t.1<e
  · have hs : ahead (t :: l) e = ahead l e + 1 := by
      unfold ahead
      rw[List.takeWhile_cons_of_pos (by simpa using ht)]
      rfl
    rw[hs]at h ⊢
    simpa using ih (by simpa using h)
  · have hs : ahead (t :: l) e = 0 := by
      unfold ahead
      rw[List.takeWhile_cons_of_neg (by simpa using ht)]
      rfl
    rw[hs]
    simp
    omega
def putL (l:List (Int×Int)) (e c:Int):List (Int×Int):=
 if c=0 then l
 else if ahead l e<l.length/\(l.getD (ahead l e) (0,0)).1=e then
  (if(l.getD (ahead l e) (0,0)).2+c=0 then l.take (ahead l e)++l.drop (ahead l e+1) else l.take (ahead l e)++[(e,(l.getD (ahead l e) (0,0)).2+c)]++l.drop (ahead l e+1))
 else l.take (ahead l e)++[(e,c)]++l.drop (ahead l e)
theorem put_length (l:List (Int×Int)) (e c:Int):(putL l e c).length<=l.length+1:=by
 have:=ahead_le l e
 unfold putL
 split
 · omega
 · split
   · split
     · simp;omega
     · simp;omega
   · simp;omega
theorem mem_take_lt {l:List (Int×Int)} {e:Int} {t:Int×Int} (h:t∈l.take (ahead l e)):t.1<e:=by
 obtain⟨i,hi,rfl⟩:=List.getElem_of_mem h
 have h1:i<ahead l e:=by simp at hi;omega
 have h2:=ahead_lt l e i h1
 have h3:i<l.length:=by simp at hi;omega
 simpa[List.getD,h3] using h2
theorem take_drop_split (l:List (Int×Int)) (k:Nat) (h:k<l.length):l=l.take k++l.getD k (0,0)::l.drop (k+1):=by
 have g:l.getD k (0,0)=l[k]:=by simp[List.getD,h]
 rw[g,<-List.drop_eq_getElem_cons h,List.take_append_drop]
theorem canon_put {l:List (Int×Int)} {f:Int->Int} (hl:Canon l f) (e c:Int):Canon (putL l e c) (fun x=>f x+if e=x then c else 0):=by
 unfold putL
 split
 · rename_i hc
   subst hc
   exact canon_congr hl fun x=>by simp
 rename_i hc
 have hle:=ahead_le l e
 split
 · -- the exponent is there
   rename_i hat
   obtain⟨hk,he⟩:=hat
   have hsp:=take_drop_split l (ahead l e) hk
   generalize hA:l.take (ahead l e)=A at hsp ⊢
   generalize hR:l.drop (ahead l e+1)=R at hsp ⊢
   generalize hT:l.getD (ahead l e) (0,0)=t at hsp he ⊢
   have hlt:∀ s∈A,s.1<e:=fun s hs=>mem_take_lt (l:=l) (by rw[hA];exact hs)
   have hs:=hl.1
   have hm:=hl.2
   rw[hsp]at hs hm
   rw[List.pairwise_append,List.pairwise_cons]at hs
   obtain⟨hsA,⟨hst,hsR⟩,hsAR⟩:=hs
   have hgt:∀ s∈R,e<s.1:=fun s hs'=>by have:=hst s hs';omega
   have hft:f e=t.2/\t.2≠0:=(hm e t.2).1 (by rw[<-he];simp)
   have other:∀ x d,x≠e->((x,d)∈A++R↔(f x=d/\d≠0)):=fun x d hx=>by
    rw[<-hm]
    simp only[List.mem_append,List.mem_cons]
    constructor
    · rintro(h|h)
      · exact Or.inl h
      · exact Or.inr (Or.inr h)
    · rintro(h|h|h)
      · exact Or.inl h
      · exact absurd (by rw[<-he,<-h]) hx
      · exact Or.inr h
   split
   · rename_i hz
     refine⟨?_,fun x d=>?_⟩
     · rw[List.pairwise_append]
       exact⟨hsA,hsR,fun a ha b hb=>by have:=hlt a ha;have:=hgt b hb;omega⟩
     · by_cases hx:x=e
       · subst hx
         simp only[if_true,hft.1]
         rw[hz]
         constructor
         · intro h
           rcases List.mem_append.1 h with h|h
           · have:=hlt _ h;simp at this
           · have:=hgt _ h;simp at this
         · rintro⟨rfl,h⟩
           exact absurd rfl h
       · have hx':¬ e=x:=fun h=>hx h.symm
         simp only[if_neg hx',Int.add_zero]
         exact other x d hx
   · rename_i hz
     refine⟨?_,fun x d=>?_⟩
     · rw[List.append_assoc,List.pairwise_append]
       refine⟨hsA,?_,fun a ha b hb=>?_⟩
       · rw[List.singleton_append,List.pairwise_cons]
         exact⟨fun b hb=>hgt b hb,hsR⟩
       · rcases List.mem_append.1 hb with h|h
         · simp at h;subst h;exact hlt a ha
         · have:=hlt a ha;have:=hgt b h;omega
     · by_cases hx:x=e
       · subst hx
         simp only[if_true,hft.1]
         constructor
         · intro h
           simp only[List.mem_append,List.mem_singleton]at h
           rcases h with(h|h)|h
           · have:=hlt _ h;simp at this
           · cases h;exact⟨rfl,hz⟩
           · have:=hgt _ h;simp at this
         · rintro⟨rfl,_⟩
           simp
       · have hx':¬ e=x:=fun h=>hx h.symm
         simp only[if_neg hx',Int.add_zero]
         rw[<-other x d hx]
         simp only[List.mem_append,List.mem_singleton]
         constructor
         · rintro((h|h)|h)
           · exact Or.inl h
           · cases h;exact absurd rfl hx
           · exact Or.inr h
         · rintro(h|h)
           · exact Or.inl (Or.inl h)
           · exact Or.inr h
 · -- it is not
   rename_i hat
   have hsp:l=l.take (ahead l e)++l.drop (ahead l e):=(List.take_append_drop _ _).symm
   have hlt:∀ s∈l.take (ahead l e),s.1<e:=fun s hs=>mem_take_lt hs
   have hgt:∀ s∈l.drop (ahead l e),e<s.1:=fun s hs=>by
    by_cases hk:ahead l e<l.length
    · have h1:=ahead_ge l e hk
      have hne:(l.getD (ahead l e) (0,0)).1≠e:=fun h=>hat ⟨hk,h⟩
      have g:l.getD (ahead l e) (0,0)=l[ahead l e]:=by simp[List.getD,hk]
      rw[List.drop_eq_getElem_cons hk]at hs
      rcases List.mem_cons.1 hs with h|h
      · rw[h,<-g];omega
      · have hp:=hl.1
        rw[<-List.take_append_drop (ahead l e) l,List.pairwise_append]at hp
        have hp2:=hp.2.1
        rw[List.drop_eq_getElem_cons hk,List.pairwise_cons]at hp2
        have:=hp2.1 s h
        rw[<-g]at this
        omega
    · rw[List.drop_eq_nil_of_le (by omega)]at hs
      cases hs
   generalize hA:l.take (ahead l e)=A at hsp hlt ⊢
   generalize hR:l.drop (ahead l e)=R at hsp hgt ⊢
   have hs:=hl.1
   have hm:=hl.2
   rw[hsp]at hs hm
   rw[List.pairwise_append]at hs
   have hfe:f e=0:=by
    by_cases h:f e=0
    · exact h
    · have:=(hm e (f e)).2 ⟨rfl,h⟩
      rcases List.mem_append.1 this with h'|h'
      · have:=hlt _ h';simp at this
      · have:=hgt _ h';simp at this
   refine⟨?_,fun x d=>?_⟩
   · rw[List.append_assoc,List.pairwise_append]
     refine⟨hs.1,?_,fun a ha b hb=>?_⟩
     · rw[List.singleton_append,List.pairwise_cons]
       exact⟨fun b hb=>hgt b hb,hs.2.1⟩
     · rcases List.mem_append.1 hb with h|h
       · simp at h;subst h;exact hlt a ha
       · have:=hlt a ha;have:=hgt b h;omega
   · by_cases hx:x=e
     · subst hx
       simp only[if_true,hfe,Int.zero_add]
       constructor
       · intro h
         simp only[List.mem_append,List.mem_singleton]at h
         rcases h with(h|h)|h
         · have:=hlt _ h;simp at this
         · cases h;exact⟨rfl,hc⟩
         · have:=hgt _ h;simp at this
       · rintro⟨rfl,_⟩
         simp
     · have hx':¬ e=x:=fun h=>hx h.symm
       simp only[if_neg hx',Int.add_zero]
       rw[<-hm]
       simp only[List.mem_append,List.mem_singleton]
       constructor
       · rintro((h|h)|h)
         · exact Or.inl h
         · cases h;exact absurd rfl hx
         · exact Or.inr h
       · rintro(h|h)
         · exact Or.inl (Or.inl h)
         · exact Or.inr h
end Go.Proofs.Ytefooihnoajnlaa.Poly
