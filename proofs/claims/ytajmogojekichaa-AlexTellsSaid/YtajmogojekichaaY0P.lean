/- Several texts of the proof, one behind the other. -/
import Derived.Test.YtajmogojekichaaO0
/- Plain mathematics: in how many ways variables are coloured so that something holds. -/
namespace Go.Proofs.Ytajmogojekichaa

def sumN (n : Nat) (g : Nat → Nat) : Nat := match n with
  | 0 => 0
  | k + 1 => sumN k g + g k
theorem sumN_congr {n : Nat} {g h : Nat → Nat} (e : ∀ c, c < n → g c = h c) : sumN n g = sumN n h := by
  induction n with
  | zero => rfl
  | succ n ih => simp only [sumN]; rw [ih (fun c hc => e c (by omega)), e n (by omega)]
theorem sumN_zero {n : Nat} {g : Nat → Nat} (e : ∀ c, c < n → g c = 0) : sumN n g = 0 := by
  induction n with
  | zero => rfl
  | succ n ih => simp only [sumN]; rw [ih (fun c hc => e c (by omega)), e n (by omega)]
theorem sumN_add (n : Nat) (g h : Nat → Nat) : sumN n (fun c => g c + h c) = sumN n g + sumN n h := by
  induction n with
  | zero => rfl
  | succ n ih => simp only [sumN]; rw [ih]; omega
theorem sumN_swap (n m : Nat) (g : Nat → Nat → Nat) : sumN n (fun a => sumN m (fun b => g a b)) = sumN m (fun b => sumN n (fun a => g a b)) := by
  induction n with
  | zero => simp only [sumN]; exact (sumN_zero fun _ _ => rfl).symm
  | succ n ih => simp only [sumN]; rw [ih, ← sumN_add]
theorem sumN_one {n : Nat} {g : Nat → Nat} (c0 : Nat) (h : c0 < n) (e : ∀ c, c < n → c ≠ c0 → g c = 0) : sumN n g = g c0 := by
  induction n with
  | zero => omega
  | succ n ih =>
    simp only [sumN]
    by_cases h1 : c0 = n
    · subst h1
      rw [sumN_zero (fun c hc => e c (by omega) (by omega))]
      omega
    · rw [ih (by omega) (fun c hc hne => e c (by omega) hne), e n (by omega) (fun h2 => h1 h2.symm)]
      omega
def upd (f : Nat → Nat) (v c : Nat) : Nat → Nat := fun x => if x = v then c else f x
theorem upd_same (f : Nat → Nat) (v c : Nat) : upd f v c v = c := by simp [upd]
theorem upd_ne (f : Nat → Nat) (v c x : Nat) (h : x ≠ v) : upd f v c x = f x := by simp [upd, h]
theorem upd_comm (f : Nat → Nat) (u v a b : Nat) (h : u ≠ v) : upd (upd f u a) v b = upd (upd f v b) u a := by
  funext x
  unfold upd
  by_cases h1 : x = v
  · have h2 : x ≠ u := fun e => h (e.symm.trans h1)
    simp [h1, Ne.symm h]
  · simp [h1]
/-- So many ways are there to colour what is listed so that all holds. -/
def waysN (n : Nat) (phi : (Nat → Nat) → Bool) : List Nat → (Nat → Nat) → Nat
  | [], f => if phi f = true then 1 else 0
  | v :: vs, f => sumN n fun c => waysN n phi vs (upd f v c)
/-- Alike but for what is listed, and there with colours. -/
def Ext (n : Nat) (vs : List Nat) (f g : Nat → Nat) : Prop := (∀ x, x ∉ vs → g x = f x) ∧ ∀ x, x ∈ vs → g x < n
theorem Ext.cons {n v c : Nat} {vs : List Nat} {f g : Nat → Nat} (hc : c < n) (hv : v ∉ vs) (h : Ext n vs (upd f v c) g) : Ext n (v :: vs) f g ∧ g v = c := by
  have e : g v = c := by rw [h.1 v hv, upd_same]
  refine ⟨⟨fun x hx => ?_, fun x hx => ?_⟩, e⟩
  · have h1 : x ≠ v := fun q => hx (by rw [q]; exact List.Mem.head _)
    have h2 : x ∉ vs := fun q => hx (List.Mem.tail _ q)
    rw [h.1 x h2, upd_ne _ _ _ _ h1]
  · by_cases q : x = v
    · rw [q, e]; exact hc
    · exact h.2 x (by rcases List.mem_cons.1 hx with h1 | h1
                      · exact absurd h1 q
                      · exact h1)
theorem ways_congr {n : Nat} {phi psi : (Nat → Nat) → Bool} : ∀ (vs : List Nat) (f : Nat → Nat), vs.Nodup → (∀ g, Ext n vs f g → phi g = psi g) → waysN n phi vs f = waysN n psi vs f
  | [], f, _, h => by simp only [waysN]; rw [h f ⟨fun _ _ => rfl, fun x hx => by cases hx⟩]
  | v :: vs, f, hd, h => by
    obtain ⟨hv, hd'⟩ := List.nodup_cons.1 hd
    exact sumN_congr fun c hc => ways_congr vs _ hd' fun g hg => h g (Ext.cons hc hv hg).1
theorem ways_zero {n : Nat} {phi : (Nat → Nat) → Bool} : ∀ (vs : List Nat) (f : Nat → Nat), vs.Nodup → (∀ g, Ext n vs f g → phi g = false) → waysN n phi vs f = 0
  | [], f, _, h => by simp only [waysN]; rw [h f ⟨fun _ _ => rfl, fun x hx => by cases hx⟩]; rfl
  | v :: vs, f, hd, h => by
    obtain ⟨hv, hd'⟩ := List.nodup_cons.1 hd
    exact sumN_zero fun c hc => ways_zero vs _ hd' fun g hg => h g (Ext.cons hc hv hg).1
/-- Where one colour alone will do. -/
theorem ways_one {n v c0 : Nat} {phi : (Nat → Nat) → Bool} {vs : List Nat} {f : Nat → Nat} (hd : (v :: vs).Nodup) (hc0 : c0 < n) (h : ∀ g, Ext n (v :: vs) f g → phi g = true → g v = c0) : waysN n phi (v :: vs) f = waysN n phi vs (upd f v c0) := by
  obtain ⟨hv, hd'⟩ := List.nodup_cons.1 hd
  refine sumN_one c0 hc0 fun c hc hne => ways_zero vs _ hd' fun g hg => ?_
  obtain ⟨h1, h2⟩ := Ext.cons hc hv hg
  cases e : phi g with
  | false => rfl
  | true => exact absurd (h2.symm.trans (h g h1 e)) hne
/-- The order does not matter. -/
theorem ways_perm {n : Nat} {phi : (Nat → Nat) → Bool} {vs ws : List Nat} (hp : vs.Perm ws) : vs.Nodup → ∀ f, waysN n phi vs f = waysN n phi ws f := by
  induction hp with
  | nil => intro _ f; rfl
  | cons x _ ih => intro hd f; exact sumN_congr fun c _ => ih (List.nodup_cons.1 hd).2 _
  | swap x y l =>
    intro hd f
    have hne : y ≠ x := fun e => (List.nodup_cons.1 hd).1 (by rw [e]; exact List.Mem.head _)
    simp only [waysN]
    rw [sumN_swap]
    exact sumN_congr fun a _ => sumN_congr fun b _ => by rw [upd_comm f y x b a hne]
  | trans h1 _ ih1 ih2 => intro hd f; rw [ih1 hd f, ih2 (h1.nodup_iff.1 hd) f]
end Go.Proofs.Ytajmogojekichaa
/- Plain mathematics: a search that leaves off early counts the same; variables that hang on others. -/
namespace Go.Proofs.Ytajmogojekichaa

/-- A search that goes on only where a test holds. -/
def searchN (n : Nat) (chk : Nat → (Nat → Nat) → Bool) : List Nat → (Nat → Nat) → Nat
  | [], _ => 1
  | v :: vs, f => sumN n fun c => if chk v (upd f v c) = true then searchN n chk vs (upd f v c) else 0
/-- It counts all ways, if what is tested is what holds so far. -/
theorem search_ways {n : Nat} {chk : Nat → (Nat → Nat) → Bool} {phi : (Nat → Nat) → Bool} (P : List Nat → (Nat → Nat) → Bool) (h0 : ∀ f, P [] f = phi f)
    (hs : ∀ v vs f c, P (v :: vs) f = true → c < n → P vs (upd f v c) = chk v (upd f v c)) (hz : ∀ vs f g, P vs f = false → Ext n vs f g → phi g = false) :
    ∀ (vs : List Nat) (f : Nat → Nat), vs.Nodup → P vs f = true → searchN n chk vs f = waysN n phi vs f
  | [], f, _, h => by simp only [searchN, waysN]; rw [← h0, if_pos h]
  | v :: vs, f, hd, h => by
    refine sumN_congr fun c hc => ?_
    have e := hs v vs f c h hc
    have hd' := (List.nodup_cons.1 hd).2
    cases hk : chk v (upd f v c) with
    | true => rw [if_pos rfl]; exact search_ways P h0 hs hz vs _ hd' (by rw [e, hk])
    | false =>
      rw [if_neg (by simp)]
      exact (ways_zero vs _ hd' fun g hg => hz vs _ g (by rw [e, hk]) hg).symm

/-- The arcs from a on, so many; those of them that are the lowest of theirs. -/
def fromA (a k : Nat) : List Nat := (List.range k).map fun i => a + i
theorem fromA_succ (a k : Nat) : fromA a (k + 1) = a :: fromA (a + 1) k := by
  unfold fromA
  rw [List.range_succ_eq_map, List.map_cons, List.map_map]
  congr 1
  exact List.map_congr_left fun i _ => by show a + (i + 1) = a + 1 + i; omega
theorem mem_fromA {a k x : Nat} : x ∈ fromA a k ↔ a ≤ x ∧ x < a + k := by
  unfold fromA
  rw [List.mem_map]
  constructor
  · rintro ⟨i, hi, rfl⟩
    have := List.mem_range.1 hi
    omega
  · intro h
    exact ⟨x - a, List.mem_range.2 (by omega), by omega⟩
theorem nodup_fromA (a : Nat) : ∀ k, (fromA a k).Nodup := by
  intro k
  induction k generalizing a with
  | zero => exact List.nodup_nil
  | succ k ih =>
    rw [fromA_succ]
    exact List.nodup_cons.2 ⟨fun h => by have := mem_fromA.1 h; omega, ih (a + 1)⟩
def rootsA (L : Nat → Nat) (a k : Nat) : List Nat := (fromA a k).filter fun x => decide (L x = x)
/-- Where each variable must have the colour of the lowest of its own, the lowest alone are to be coloured. -/
theorem ways_roots {n N : Nat} {L : Nat → Nat} {phi : (Nat → Nat) → Bool} (hL : ∀ x, 1 ≤ x → x ≤ N → 1 ≤ L x ∧ L x ≤ x ∧ L (L x) = L x)
    (hphi : ∀ f g, (∀ x, 1 ≤ x → x ≤ N → f x = g x) → phi f = phi g) (heq : ∀ g, phi g = true → ∀ x, 1 ≤ x → x ≤ N → g x = g (L x)) :
    ∀ (k a : Nat) (f : Nat → Nat), 1 ≤ a → a + k = N + 1 → (∀ x, 1 ≤ x → x < a → f x = f (L x) ∧ f x < n) → waysN n phi (fromA a k) f = waysN n (fun g => phi fun x => g (L x)) (rootsA L a k) f
  | 0, a, f, h1, ha, hf => by
    show (if phi f = true then 1 else 0) = (if phi (fun x => f (L x)) = true then 1 else 0)
    rw [hphi f (fun x => f (L x)) fun x hx hN => (hf x hx (by omega)).1]
  | k + 1, a, f, h1, ha, hf => by
    obtain ⟨l1, l2, l3⟩ := hL a h1 (by omega)
    have hn := nodup_fromA a (k + 1)
    rw [fromA_succ] at hn ⊢
    have hroots : rootsA L a (k + 1) = if L a = a then a :: rootsA L (a + 1) k else rootsA L (a + 1) k := by
      unfold rootsA
      rw [fromA_succ, List.filter_cons]
      by_cases e : L a = a <;> simp [e]
    rw [hroots]
    by_cases e : L a = a
    · rw [if_pos e]
      refine sumN_congr fun c hc => ways_roots hL hphi heq k (a + 1) _ (by omega) (by omega) fun x hx hlt => ?_
      by_cases q : x = a
      · subst q; rw [e, upd_same]; exact ⟨rfl, hc⟩
      · obtain ⟨x1, x2, -⟩ := hL x hx (by omega)
        rw [upd_ne _ _ _ _ q, upd_ne _ _ _ _ (by omega)]
        exact hf x hx (by omega)
    · rw [if_neg e]
      have hb := hf (L a) l1 (by omega)
      have step := ways_one (phi := phi) (c0 := f (L a)) hn hb.2 (fun g hg hp => by
        rw [heq g hp a h1 (by omega)]
        exact hg.1 (L a) (fun q => by
          rcases List.mem_cons.1 q with q | q
          · exact e q
          · have := mem_fromA.1 q; omega))
      rw [step, ways_roots hL hphi heq k (a + 1) _ (by omega) (by omega) fun x hx hlt => ?_]
      · -- a itself is asked for no more
        have key : ∀ (vs : List Nat) (f : Nat → Nat) (c : Nat), a ∉ vs → waysN n (fun g => phi fun x => g (L x)) vs (upd f a c) = waysN n (fun g => phi fun x => g (L x)) vs f := by
          intro vs
          induction vs with
          | nil =>
            intro f c _
            show (if phi (fun x => upd f a c (L x)) = true then 1 else 0) = (if phi (fun x => f (L x)) = true then 1 else 0)
            rw [hphi (fun x => upd f a c (L x)) (fun x => f (L x)) fun x hx hN => upd_ne _ _ _ _ fun q => by
              have h3 := (hL x hx hN).2.2
              rw [q] at h3
              exact e h3]
          | cons v vs ih =>
            intro f c hv
            have hne : a ≠ v := fun q => hv (by rw [q]; exact List.Mem.head _)
            refine sumN_congr fun b _ => ?_
            rw [upd_comm f a v c b hne]
            exact ih _ c (fun q => hv (List.Mem.tail _ q))
        exact key _ f _ (fun q => by have := mem_fromA.1 (List.mem_filter.1 q).1; omega)
      · by_cases q : x = a
        · subst q
          rw [upd_same, upd_ne _ _ _ _ e]
          exact ⟨rfl, hb.2⟩
        · obtain ⟨x1, x2, -⟩ := hL x hx (by omega)
          rw [upd_ne _ _ _ _ q, upd_ne _ _ _ _ (by omega)]
          exact hf x hx (by omega)
end Go.Proofs.Ytajmogojekichaa
/- Plain mathematics: variables under other names; the ways to colour a drawing, by its overpasses. -/
namespace Go.Proofs.Ytajmogojekichaa

theorem ways_rename {n : Nat} {D : List Nat} {num : Nat → Nat} {phi psi : (Nat → Nat) → Bool} (hinj : ∀ x y, x ∈ D → y ∈ D → num x = num y → x = y) (hrel : ∀ g g', (∀ x, x ∈ D → g x = g' (num x)) → phi g = psi g') :
    ∀ (vs : List Nat) (f f' : Nat → Nat), (∀ x, x ∈ vs → x ∈ D) → (∀ x, x ∈ D → x ∉ vs → f x = f' (num x)) → waysN n phi vs f = waysN n psi (vs.map num) f'
  | [], f, f', _, h => by
    show (if phi f = true then 1 else 0) = (if psi f' = true then 1 else 0)
    rw [hrel f f' fun x hx => h x hx (fun q => by cases q)]
  | v :: vs, f, f', hs, h => by
    refine sumN_congr fun c _ => ways_rename hinj hrel vs _ _ (fun x hx => hs x (List.Mem.tail _ hx)) fun x hx hv => ?_
    by_cases e : x = v
    · rw [e, upd_same, upd_same]
    · rw [upd_ne _ _ _ _ e, upd_ne _ _ _ _ (fun q => e (hinj x v hx (hs v (List.Mem.head _)) q))]
      exact h x hx (fun q => by
        rcases List.mem_cons.1 q with q | q
        · exact e q
        · exact hv q)
/-- Does a colouring of overpasses keep the rule of a crossing? -/
def ruleB (q : Nat → Nat → Nat) (plus : Bool) (x y z : Nat) : Bool := if plus = true then decide (q x y = z) else decide (q z y = x)
/-- Do colours of arcs keep all that crossings ask? -/
def arcsB (q : Nat → Nat → Nat) (C : List Cr) (l : Nat → Nat) : Bool := C.all fun c => decide (l c.b.toNat = l c.d.toNat) && ruleB q c.plus (l c.a.toNat) (l c.b.toNat) (l c.c.toNat)
/-- Do colours of overpasses? -/
def oversB (q : Nat → Nat → Nat) (C : List Cr) (l : Nat → Nat) : Bool := C.all fun c => ruleB q c.plus (l (ovM C c.a.toNat)) (l (ovM C c.b.toNat)) (l (ovM C c.c.toNat))
end Go.Proofs.Ytajmogojekichaa
/- Plain mathematics: a drawing is coloured in as many ways by arcs as by overpasses. -/
namespace Go.Proofs.Ytajmogojekichaa

theorem rootsN_at (W : List Nat) (a : Nat) (h1 : 1 ≤ a) : rootsN W (a + 1) = rootsN W a + (if W.getD a 0 = a then 1 else 0) := by
  show rootsN W a + _ = _
  by_cases e : W.getD a 0 = a
  · rw [if_pos ⟨h1, e⟩, if_pos e]
  · rw [if_neg (fun h => e h.2), if_neg e]
theorem roots_nums (W : List Nat) : ∀ (k a : Nat), 1 ≤ a → (rootsA (fun x => W.getD x 0) a k).map (rootsN W) = fromA (rootsN W a) (rootsN W (a + k) - rootsN W a)
  | 0, a, _ => by simp [rootsA, fromA]
  | k + 1, a, h1 => by
    have ih := roots_nums W k (a + 1) (by omega)
    have hs := rootsN_at W a h1
    have hm := rootsN_mono W (a + 1) (a + 1 + k) (by omega)
    have e2 : a + (k + 1) = a + 1 + k := by omega
    unfold rootsA at ih ⊢
    rw [fromA_succ, List.filter_cons, e2]
    by_cases e : W.getD a 0 = a
    · rw [if_pos e] at hs
      rw [if_pos (decide_eq_true e), List.map_cons, ih, hs]
      have e3 : rootsN W (a + 1 + k) - rootsN W a = (rootsN W (a + 1 + k) - (rootsN W a + 1)) + 1 := by omega
      rw [e3, fromA_succ]
    · rw [if_neg e] at hs
      rw [if_neg (by simp only [decide_eq_true_eq]; exact e), ih, hs]
      rfl
theorem all_congr {α : Type} {l : List α} {p q : α → Bool} (h : ∀ x, x ∈ l → p x = q x) : l.all p = l.all q := by
  induction l with
  | nil => rfl
  | cons x l ih => rw [List.all_cons, List.all_cons, h x (List.Mem.head _), ih fun y hy => h y (List.Mem.tail _ hy)]
theorem arcs_of {C : List Cr} {loops : Int} (hm : mayD C loops = true) (c : Cr) (hc : c ∈ C) : (1 ≤ c.a.toNat ∧ c.a.toNat ≤ 2 * C.length) ∧ (1 ≤ c.b.toNat ∧ c.b.toNat ≤ 2 * C.length) ∧ (1 ≤ c.c.toNat ∧ c.c.toNat ≤ 2 * C.length) ∧ (1 ≤ c.d.toNat ∧ c.d.toNat ≤ 2 * C.length) := by
  obtain ⟨i, hi, rfl⟩ := List.getElem_of_mem hc
  have e : C.getD i Cr.none = C[i] := by simp [List.getD_eq_getElem?_getD, hi]
  have h0 := may_fit hm i 0 hi (by omega)
  have h1 := may_fit hm i 1 hi (by omega)
  have h2 := may_fit hm i 2 hi (by omega)
  have h3 := may_fit hm i 3 hi (by omega)
  have a0 : (C.getD i Cr.none).arc 0 = C[i].a := by rw [e]; rfl
  have a1 : (C.getD i Cr.none).arc 1 = C[i].b := by rw [e]; rfl
  have a2 : (C.getD i Cr.none).arc 2 = C[i].c := by rw [e]; rfl
  have a3 : (C.getD i Cr.none).arc 3 = C[i].d := by rw [e]; rfl
  have g0 := h0.1; have g1 := h0.2.1; rw [a0] at g0 g1
  have g2 := h1.1; have g3 := h1.2.1; rw [a1] at g2 g3
  have g4 := h2.1; have g5 := h2.2.1; rw [a2] at g4 g5
  have g6 := h3.1; have g7 := h3.2.1; rw [a3] at g6 g7
  refine ⟨⟨?_, ?_⟩, ⟨?_, ?_⟩, ⟨?_, ?_⟩, ?_, ?_⟩ <;> omega
/-- As many ways by arcs as by overpasses. -/
theorem arcs_overs {C : List Cr} {loops : Int} (hm : mayD C loops = true) (n : Nat) (q : Nat → Nat → Nat) (f f' : Nat → Nat) : waysN n (arcsB q C) (fromA 1 (2 * C.length)) f = waysN n (oversB q C) (fromA 0 (ovC C)) f' := by
  have hL := lowM_least (ovE_lt hm)
  have hpos : ∀ v, 1 ≤ v → v < 2 * C.length + 1 → 1 ≤ (lowM C).getD v 0 := fun v h1 h2 => hL.pos (fun e he => ⟨(ovE_in hm e he).1.1, (ovE_in hm e he).2.1⟩) h2 h1
  have s1 := ways_roots (n := n) (N := 2 * C.length) (L := fun x => (lowM C).getD x 0) (phi := arcsB q C)
    (fun x h1 h2 => ⟨hpos x h1 (by omega), hL.le (by omega), hL.root (by omega)⟩)
    (fun g h e => all_congr fun c hc => by
      obtain ⟨a1, a2, a3, a4⟩ := arcs_of hm c hc
      rw [e _ a1.1 a1.2, e _ a2.1 a2.2, e _ a3.1 a3.2, e _ a4.1 a4.2])
    (fun g hg x h1 h2 => by
      have hcl : Closed (ovE C) (fun z => g x = g z) := fun e he => by
        obtain ⟨c, hc, rfl⟩ := List.mem_map.1 he
        have h3 := (Bool.and_eq_true_iff.1 (List.all_eq_true.1 hg c hc)).1
        have h4 : g c.b.toNat = g c.d.toNat := by simpa using h3
        show g x = g c.b.toNat ↔ g x = g c.d.toNat
        rw [h4]
      exact (hL.2 x (by omega)).1 _ hcl rfl)
    (2 * C.length) 1 f (Nat.le_refl _) (by omega) (fun x h1 h2 => by omega)
  rw [s1]
  have s2 := ways_rename (n := n) (D := rootsA (fun x => (lowM C).getD x 0) 1 (2 * C.length)) (num := rootsN (lowM C)) (phi := fun g => arcsB q C fun x => g ((lowM C).getD x 0)) (psi := oversB q C)
    (fun x y hx hy e => by
      obtain ⟨x1, x2⟩ := List.mem_filter.1 hx
      obtain ⟨y1, y2⟩ := List.mem_filter.1 hy
      have gx := mem_fromA.1 x1
      have gy := mem_fromA.1 y1
      have rx := rootsN_at (lowM C) x gx.1
      have ry := rootsN_at (lowM C) y gy.1
      rw [if_pos (by simpa using x2)] at rx
      rw [if_pos (by simpa using y2)] at ry
      rcases Nat.lt_trichotomy x y with h | h | h
      · have := rootsN_mono (lowM C) (x + 1) y h; omega
      · exact h
      · have := rootsN_mono (lowM C) (y + 1) x h; omega)
    (fun g g' e => all_congr fun c hc => by
      obtain ⟨a1, a2, a3, a4⟩ := arcs_of hm c hc
      have mem : ∀ x, 1 ≤ x → x ≤ 2 * C.length → (lowM C).getD x 0 ∈ rootsA (fun x => (lowM C).getD x 0) 1 (2 * C.length) := fun x h1 h2 => by
        refine List.mem_filter.2 ⟨mem_fromA.2 ⟨hpos x h1 (by omega), ?_⟩, decide_eq_true (hL.root (by omega))⟩
        have := hL.le (v := x) (by omega)
        omega
      have hbd : (lowM C).getD c.b.toNat 0 = (lowM C).getD c.d.toNat 0 := (hL.same (by omega) (by omega)).2 (Con.edge (List.mem_map.2 ⟨c, hc, rfl⟩))
      have ea := e _ (mem _ a1.1 a1.2)
      have eb := e _ (mem _ a2.1 a2.2)
      have ec := e _ (mem _ a3.1 a3.2)
      show (decide (g _ = g _) && ruleB q c.plus (g _) (g _) (g _)) = ruleB q c.plus (g' (rootsN _ _)) (g' (rootsN _ _)) (g' (rootsN _ _))
      rw [← hbd, decide_eq_true rfl, Bool.true_and, ea, eb, ec])
    (rootsA (fun x => (lowM C).getD x 0) 1 (2 * C.length)) f f' (fun x hx => hx) (fun x hx hn => absurd hx hn)
  rw [s2, roots_nums (lowM C) (2 * C.length) 1 (Nat.le_refl _)]
  have e0 : rootsN (lowM C) 1 = 0 := by simp [rootsN]
  have e1 : 1 + 2 * C.length = 2 * C.length + 1 := by omega
  rw [e0, e1]
  rfl
end Go.Proofs.Ytajmogojekichaa
/- Plain mathematics: the search of ref.counted, arc by arc, counts all ways. -/
namespace Go.Proofs.Ytajmogojekichaa

theorem search_from {n N : Nat} {chk : Nat → (Nat → Nat) → Bool} {phi : (Nat → Nat) → Bool} (P : Nat → (Nat → Nat) → Bool) (h0 : ∀ f, P (N + 1) f = phi f)
    (hs : ∀ a f, P (a + 1) f = chk a f) (hz : ∀ a f g, 1 ≤ a → a ≤ N + 1 → P a f = false → (∀ x, 1 ≤ x → x < a → g x = f x) → phi g = false) :
    ∀ (k a : Nat) (f : Nat → Nat), 1 ≤ a → a + k = N + 1 → P a f = true → searchN n chk (fromA a k) f = waysN n phi (fromA a k) f
  | 0, a, f, _, ha, h => by
    obtain rfl : a = N + 1 := by omega
    show 1 = (if phi f = true then 1 else 0)
    rw [← h0, if_pos h]
  | k + 1, a, f, h1, ha, h => by
    have hn := nodup_fromA a (k + 1)
    rw [fromA_succ] at hn ⊢
    have hd' := (List.nodup_cons.1 hn).2
    refine sumN_congr fun c hc => ?_
    have e := hs a (upd f a c)
    cases hk : chk a (upd f a c) with
    | true => rw [if_pos rfl]; exact search_from P h0 hs hz k (a + 1) _ (by omega) (by omega) (by rw [e, hk])
    | false =>
      rw [if_neg (by simp)]
      refine (ways_zero _ _ hd' fun g hg => hz (a + 1) _ g (by omega) (by omega) (by rw [e, hk]) fun x hx hlt => hg.1 x fun q => ?_).symm
      have := mem_fromA.1 q
      omega
/-- What is asked of the arcs up to a. -/
def oneA (q : Nat → Nat → Nat) (a : Nat) (l : Nat → Nat) (c : Cr) : Bool :=
  (!(decide (c.b.toNat ≤ a) && decide (c.d.toNat ≤ a)) || decide (l c.b.toNat = l c.d.toNat)) && (!(decide (c.a.toNat ≤ a) && decide (c.b.toNat ≤ a) && decide (c.c.toNat ≤ a)) || ruleB q c.plus (l c.a.toNat) (l c.b.toNat) (l c.c.toNat))
def chkA (q : Nat → Nat → Nat) (C : List Cr) (a : Nat) (l : Nat → Nat) : Bool := C.all (oneA q a l)
theorem ruleB_congr {q : Nat → Nat → Nat} {p : Bool} {x y z x' y' z' : Nat} (hx : x = x') (hy : y = y') (hz : z = z') : ruleB q p x y z = ruleB q p x' y' z' := by rw [hx, hy, hz]
/-- The search by arcs counts the ways by arcs. -/
theorem counted_ways {C : List Cr} {loops : Int} (hm : mayD C loops = true) (n : Nat) (q : Nat → Nat → Nat) (f : Nat → Nat) : searchN n (chkA q C) (fromA 1 (2 * C.length)) f = waysN n (arcsB q C) (fromA 1 (2 * C.length)) f := by
  refine search_from (N := 2 * C.length) (fun a l => chkA q C (a - 1) l) (fun g => all_congr fun c hc => ?_) (fun a g => by show chkA q C (a + 1 - 1) g = _; rw [Nat.add_sub_cancel]) (fun a g h ha haN hf he => ?_) (2 * C.length) 1 f (Nat.le_refl _) (by omega) (List.all_eq_true.2 fun c hc => ?_)
  · obtain ⟨a1, a2, a3, a4⟩ := arcs_of hm c hc
    rw [Nat.add_sub_cancel]
    unfold oneA
    simp [a1.2, a2.2, a3.2, a4.2]
  · -- what fails ahead of a fails behind it
    cases hp : arcsB q C h with
    | false => exact hp
    | true =>
      exfalso
      have : chkA q C (a - 1) g = true := List.all_eq_true.2 fun c hc => by
        obtain ⟨a1, a2, a3, a4⟩ := arcs_of hm c hc
        obtain ⟨k1, k2⟩ := Bool.and_eq_true_iff.1 (List.all_eq_true.1 hp c hc)
        unfold oneA
        refine Bool.and_eq_true_iff.2 ⟨?_, ?_⟩
        · by_cases hx : c.b.toNat ≤ a - 1 ∧ c.d.toNat ≤ a - 1
          · have e1 := he _ a2.1 (by omega)
            have e2 := he _ a4.1 (by omega)
            rw [e1, e2] at k1
            rw [k1, Bool.or_true]
          · have : (decide (c.b.toNat ≤ a - 1) && decide (c.d.toNat ≤ a - 1)) = false := by
              cases e : (decide (c.b.toNat ≤ a - 1) && decide (c.d.toNat ≤ a - 1)) with
              | false => rfl
              | true => exact absurd (by simpa using e) hx
            rw [this]; rfl
        · by_cases hx : c.a.toNat ≤ a - 1 ∧ c.b.toNat ≤ a - 1 ∧ c.c.toNat ≤ a - 1
          · have e1 := he _ a1.1 (by omega)
            have e2 := he _ a2.1 (by omega)
            have e3 := he _ a3.1 (by omega)
            rw [e1, e2, e3] at k2
            rw [k2, Bool.or_true]
          · have : (decide (c.a.toNat ≤ a - 1) && decide (c.b.toNat ≤ a - 1) && decide (c.c.toNat ≤ a - 1)) = false := by
              cases e : (decide (c.a.toNat ≤ a - 1) && decide (c.b.toNat ≤ a - 1) && decide (c.c.toNat ≤ a - 1)) with
              | false => rfl
              | true =>
                have h3 : (c.a.toNat ≤ a - 1 ∧ c.b.toNat ≤ a - 1) ∧ c.c.toNat ≤ a - 1 := by simpa using e
                exact absurd ⟨h3.1.1, h3.1.2, h3.2⟩ hx
            rw [this]; rfl
      rw [this] at hf
      cases hf
  · obtain ⟨a1, a2, a3, a4⟩ := arcs_of hm c hc
    have n1 : ¬ c.a.toNat ≤ 0 := by omega
    have n2 : ¬ c.b.toNat ≤ 0 := by omega
    show oneA q 0 f c = true
    unfold oneA
    rw [decide_eq_false n1, decide_eq_false n2]
    rfl
end Go.Proofs.Ytajmogojekichaa
/- Plain mathematics: the search of colour's painting, overpass by overpass in whatever order, counts all ways. -/
namespace Go.Proofs.Ytajmogojekichaa

/-- A rule of three overpasses: from, by, to. -/
def holdR (q : Nat → Nat → Nat) (f : Nat → Nat) (r : Nat × Nat × Nat) : Bool := decide (q (f r.1) (f r.2.1) = f r.2.2)
def inR (l : List Nat) (r : Nat × Nat × Nat) : Bool := decide (r.1 ∈ l) && decide (r.2.1 ∈ l) && decide (r.2.2 ∈ l)
def hasR (v : Nat) (r : Nat × Nat × Nat) : Bool := decide (r.1 = v) || decide (r.2.1 = v) || decide (r.2.2 = v)
/-- The rules that are ready when v has its colour, behind those that are placed. -/
def readyR (R : List (Nat × Nat × Nat)) (pl : List Nat) (v : Nat) : List (Nat × Nat × Nat) := R.filter fun r => hasR v r && inR pl r
def paintN (n : Nat) (q : Nat → Nat → Nat) (R : List (Nat × Nat × Nat)) : List Nat → List Nat → (Nat → Nat) → Nat
  | _, [], _ => 1
  | pl, v :: vs, f => sumN n fun c => if (readyR R (pl ++ [v]) v).all (holdR q (upd f v c)) = true then paintN n q R (pl ++ [v]) vs (upd f v c) else 0
theorem inR_iff {l : List Nat} {r : Nat × Nat × Nat} : inR l r = true ↔ r.1 ∈ l ∧ r.2.1 ∈ l ∧ r.2.2 ∈ l := by simp [inR, and_assoc]
theorem holdR_congr {q : Nat → Nat → Nat} {f g : Nat → Nat} {r : Nat × Nat × Nat} (h1 : f r.1 = g r.1) (h2 : f r.2.1 = g r.2.1) (h3 : f r.2.2 = g r.2.2) : holdR q f r = holdR q g r := by
  unfold holdR
  rw [h1, h2, h3]
theorem paint_ways {n : Nat} {q : Nat → Nat → Nat} {R : List (Nat × Nat × Nat)} : ∀ (vs pl : List Nat) (f : Nat → Nat), (pl ++ vs).Nodup → (∀ r, r ∈ R → inR (pl ++ vs) r = true) → (∀ r, r ∈ R → inR pl r = true → holdR q f r = true) →
    paintN n q R pl vs f = waysN n (fun g => R.all (holdR q g)) vs f
  | [], pl, f, _, hin, h => by
    show 1 = (if R.all (holdR q f) = true then 1 else 0)
    rw [if_pos (List.all_eq_true.2 fun r hr => h r hr (by have := hin r hr; rwa [List.append_nil] at this))]
  | v :: vs, pl, f, hd, hin, h => by
    have hd2 : (pl ++ [v] ++ vs).Nodup := by rw [List.append_assoc]; exact hd
    have hvp : v ∉ pl := fun hv => by
      have := (List.nodup_append.1 hd).2.2 v hv v (List.Mem.head _)
      exact this rfl
    have hvs : ∀ x, x ∈ pl ++ [v] → x ∉ vs := fun x hx hv => (List.nodup_append.1 hd2).2.2 x hx x hv rfl
    have hnd : vs.Nodup := (List.nodup_append.1 hd2).2.1
    refine sumN_congr fun c hc => ?_
    cases hk : (readyR R (pl ++ [v]) v).all (holdR q (upd f v c)) with
    | true =>
      rw [if_pos rfl]
      refine paint_ways vs (pl ++ [v]) _ hd2 (fun r hr => by rw [List.append_assoc]; exact hin r hr) fun r hr hi => ?_
      by_cases hv : hasR v r = true
      · exact List.all_eq_true.1 hk r (List.mem_filter.2 ⟨hr, by rw [hv, hi]; rfl⟩)
      · have n1 : r.1 ≠ v := fun e => hv (by simp [hasR, e])
        have n2 : r.2.1 ≠ v := fun e => hv (by simp [hasR, e])
        have n3 : r.2.2 ≠ v := fun e => hv (by simp [hasR, e])
        obtain ⟨i1, i2, i3⟩ := inR_iff.1 hi
        have back : ∀ x, x ∈ pl ++ [v] → x ≠ v → x ∈ pl := fun x hx hne => by
          rcases List.mem_append.1 hx with q1 | q1
          · exact q1
          · exact absurd (by simpa using q1) hne
        rw [holdR_congr (upd_ne _ _ _ _ n1) (upd_ne _ _ _ _ n2) (upd_ne _ _ _ _ n3)]
        exact h r hr (inR_iff.2 ⟨back _ i1 n1, back _ i2 n2, back _ i3 n3⟩)
    | false =>
      rw [if_neg (by simp)]
      refine (ways_zero vs _ hnd fun g hg => ?_).symm
      cases hp : R.all (holdR q g) with
      | false => rfl
      | true =>
        exfalso
        have : (readyR R (pl ++ [v]) v).all (holdR q (upd f v c)) = true := List.all_eq_true.2 fun r hr => by
          obtain ⟨r1, r2⟩ := List.mem_filter.1 hr
          obtain ⟨i1, i2, i3⟩ := inR_iff.1 (Bool.and_eq_true_iff.1 r2).2
          rw [← holdR_congr (hg.1 _ (hvs _ i1)) (hg.1 _ (hvs _ i2)) (hg.1 _ (hvs _ i3))]
          exact List.all_eq_true.1 hp r r1
        rw [this] at hk
        cases hk
/-- The rules of a drawing. -/
def rulesM (C : List Cr) : List (Nat × Nat × Nat) := C.map fun c => if c.plus = true then (ovM C c.a.toNat, ovM C c.b.toNat, ovM C c.c.toNat) else (ovM C c.c.toNat, ovM C c.b.toNat, ovM C c.a.toNat)
theorem rules_all (q : Nat → Nat → Nat) (C : List Cr) (l : Nat → Nat) : (rulesM C).all (holdR q l) = oversB q C l := by
  unfold rulesM oversB
  rw [List.all_map]
  refine all_congr fun c _ => ?_
  show holdR q l (if c.plus = true then _ else _) = _
  unfold ruleB
  cases c.plus <;> rfl
end Go.Proofs.Ytajmogojekichaa
/- Plain mathematics: both searches count the same. -/
namespace Go.Proofs.Ytajmogojekichaa

theorem ovM_in {C : List Cr} {loops : Int} (hm : mayD C loops = true) (a : Nat) (h1 : 1 ≤ a) (h2 : a ≤ 2 * C.length) : ovM C a < ovC C := by
  have hL := lowM_least (ovE_lt hm)
  have hp := hL.pos (fun e he => ⟨(ovE_in hm e he).1.1, (ovE_in hm e he).2.1⟩) (v := a) (by omega) h1
  have h3 := rootsN_at (lowM C) ((lowM C).getD a 0) hp
  rw [if_pos (hL.root (by omega))] at h3
  have h4 := rootsN_mono (lowM C) ((lowM C).getD a 0 + 1) (2 * C.length + 1) (by have := hL.le (v := a) (by omega); omega)
  show rootsN (lowM C) ((lowM C).getD a 0) < rootsN (lowM C) (2 * C.length + 1)
  omega
/-- In whatever order the overpasses are painted: as many ways as arc by arc. -/
theorem count_same {C : List Cr} {loops : Int} (hm : mayD C loops = true) (n : Nat) (q : Nat → Nat → Nat) (os : List Nat) (hp : os.Perm (fromA 0 (ovC C))) (f f' : Nat → Nat) :
    paintN n q (rulesM C) [] os f = searchN n (chkA q C) (fromA 1 (2 * C.length)) f' := by
  have hd : os.Nodup := hp.nodup_iff.2 (nodup_fromA 0 _)
  rw [counted_ways hm n q f', arcs_overs hm n q f' f, paint_ways os [] f (by simpa using hd) (fun r hr => ?_) (fun r _ hi => by
    have := (inR_iff.1 hi).1
    cases this)]
  · rw [ways_perm hp hd f]
    exact ways_congr _ f (nodup_fromA 0 _) fun g _ => rules_all q C g
  · obtain ⟨c, hc, rfl⟩ := List.mem_map.1 hr
    obtain ⟨a1, a2, a3, -⟩ := arcs_of hm c hc
    have mem : ∀ x, 1 ≤ x → x ≤ 2 * C.length → ovM C x ∈ os := fun x h1 h2 => hp.mem_iff.2 (mem_fromA.2 ⟨Nat.zero_le _, by have := ovM_in hm x h1 h2; omega⟩)
    rw [List.nil_append]
    cases c.plus with
    | true => exact inR_iff.2 ⟨mem _ a1.1 a1.2, mem _ a2.1 a2.2, mem _ a3.1 a3.2⟩
    | false => exact inR_iff.2 ⟨mem _ a3.1 a3.2, mem _ a2.1 a2.2, mem _ a1.1 a1.2⟩
end Go.Proofs.Ytajmogojekichaa
