/- Characteristic coefficients of a table of whole numbers: what they are, that they are whole, and how great; plain mathematics. -/
import Derived.Test.YtlcogbcpmneknaaAS0P
namespace Go.Proofs.Ytlcogbcpmneknaa

/-- A polynomial's value, and its slope's. -/
def pe (g : Nat → Int) : Nat → Int → Int
  | 0, _ => 0
  | d + 1, N => pe g d N + g d * N ^ d
def pd (g : Nat → Int) : Nat → Int → Int
  | 0, _ => 0
  | d + 1, N => pd g d N + d * g d * N ^ (d - 1)
def nb (g : Nat → Int) : Nat → Nat
  | 0 => 0
  | d + 1 => nb g d + (g d).natAbs
/-- A function is a polynomial of degree at most d, its slope another one, its coefficients together at most B, the last one T. -/
def Po (d B : Nat) (T : Int) (F G : Int → Int) : Prop := ∃ g : Nat → Int, (∀ N, F N = pe g (d + 1) N) ∧ (∀ N, G N = pd g (d + 1) N) ∧ nb g (d + 1) ≤ B ∧ g d = T
theorem pe_add (g h : Nat → Int) (N : Int) : ∀ d, pe (fun k => g k + h k) d N = pe g d N + pe h d N
  | 0 => rfl
  | d + 1 => by show pe _ d N + (g d + h d) * N ^ d = pe g d N + g d * N ^ d + (pe h d N + h d * N ^ d); rw [pe_add g h N d]; grind
theorem pd_add (g h : Nat → Int) (N : Int) : ∀ d, pd (fun k => g k + h k) d N = pd g d N + pd h d N
  | 0 => rfl
  | d + 1 => by show pd _ d N + d * (g d + h d) * N ^ (d - 1) = pd g d N + d * g d * N ^ (d - 1) + (pd h d N + d * h d * N ^ (d - 1)); rw [pd_add g h N d]; grind
theorem nb_add (g h : Nat → Int) : ∀ d, nb (fun k => g k + h k) d ≤ nb g d + nb h d
  | 0 => Nat.le_refl _
  | d + 1 => by
    have := nb_add g h d
    show nb _ d + (g d + h d).natAbs ≤ nb g d + (g d).natAbs + (nb h d + (h d).natAbs)
    omega
theorem pe_mul (k : Int) (g : Nat → Int) (N : Int) : ∀ d, pe (fun i => k * g i) d N = k * pe g d N
  | 0 => (Int.mul_zero k).symm
  | d + 1 => by show pe _ d N + k * g d * N ^ d = k * (pe g d N + g d * N ^ d); rw [pe_mul k g N d]; grind
theorem pd_mul (k : Int) (g : Nat → Int) (N : Int) : ∀ d, pd (fun i => k * g i) d N = k * pd g d N
  | 0 => (Int.mul_zero k).symm
  | d + 1 => by show pd _ d N + d * (k * g d) * N ^ (d - 1) = k * (pd g d N + d * g d * N ^ (d - 1)); rw [pd_mul k g N d]; grind
theorem nb_mul (k : Int) (g : Nat → Int) : ∀ d, nb (fun i => k * g i) d = k.natAbs * nb g d
  | 0 => rfl
  | d + 1 => by show nb _ d + (k * g d).natAbs = k.natAbs * (nb g d + (g d).natAbs); rw [nb_mul k g d, Int.natAbs_mul, Nat.mul_add]
def shf (g : Nat → Int) (k : Nat) : Int := if k = 0 then 0 else g (k - 1)
theorem pe_shf (g : Nat → Int) (N : Int) : ∀ d, pe (shf g) (d + 1) N = N * pe g d N
  | 0 => by show (0 : Int) + 0 * N ^ 0 = N * 0; grind
  | d + 1 => by
    show pe (shf g) (d + 1) N + shf g (d + 1) * N ^ (d + 1) = N * (pe g d N + g d * N ^ d)
    rw [pe_shf g N d, show shf g (d + 1) = g d by unfold shf; rw [if_neg (by omega)]; rfl, Int.pow_succ]; grind
theorem pd_shf (g : Nat → Int) (N : Int) : ∀ d, pd (shf g) (d + 1) N = N * pd g d N + pe g d N
  | 0 => by show (0 : Int) + ((0 : Nat) : Int) * 0 * N ^ 0 = N * 0 + 0; grind
  | d + 1 => by
    show pd (shf g) (d + 1) N + ((d + 1 : Nat) : Int) * shf g (d + 1) * N ^ (d + 1 - 1) = N * (pd g d N + d * g d * N ^ (d - 1)) + (pe g d N + g d * N ^ d)
    rw [pd_shf g N d, show shf g (d + 1) = g d by unfold shf; rw [if_neg (by omega)]; rfl, show d + 1 - 1 = d from rfl, Int.natCast_add]
    cases d with
    | zero => grind
    | succ d => rw [show d + 1 - 1 = d from rfl, Int.pow_succ]; grind
theorem nb_shf (g : Nat → Int) : ∀ d, nb (shf g) (d + 1) = nb g d
  | 0 => rfl
  | d + 1 => by
    show nb (shf g) (d + 1) + (shf g (d + 1)).natAbs = nb g d + (g d).natAbs
    rw [nb_shf g d, show shf g (d + 1) = g d by unfold shf; rw [if_neg (by omega)]; rfl]
theorem Po.add {d B B' : Nat} {T T' : Int} {F G F' G' : Int → Int} (h : Po d B T F G) (h' : Po d B' T' F' G') : Po d (B + B') (T + T') (fun N => F N + F' N) (fun N => G N + G' N) := by
  obtain ⟨g, a1, a2, a3, a4⟩ := h
  obtain ⟨g', b1, b2, b3, b4⟩ := h'
  exact ⟨fun k => g k + g' k, fun N => by rw [pe_add, ← a1, ← b1], fun N => by rw [pd_add, ← a2, ← b2], Nat.le_trans (nb_add g g' _) (by omega), by rw [← a4, ← b4]⟩
theorem Po.mul {d B : Nat} {T : Int} {F G : Int → Int} (k : Int) (h : Po d B T F G) : Po d (k.natAbs * B) (k * T) (fun N => k * F N) (fun N => k * G N) := by
  obtain ⟨g, a1, a2, a3, a4⟩ := h
  exact ⟨fun i => k * g i, fun N => by rw [pe_mul, ← a1], fun N => by rw [pd_mul, ← a2], by rw [nb_mul]; exact Nat.mul_le_mul_left _ a3, by rw [← a4]⟩
theorem Po.more {d B : Nat} {T : Int} {F G : Int → Int} (h : Po d B T F G) : Po (d + 1) B 0 F G := by
  obtain ⟨g, a1, a2, a3, a4⟩ := h
  have key : ∀ m, m ≤ d + 1 → pe (fun k => if k ≤ d then g k else 0) m = pe g m ∧ pd (fun k => if k ≤ d then g k else 0) m = pd g m ∧ nb (fun k => if k ≤ d then g k else 0) m = nb g m := fun m => by
    induction m with
    | zero => exact fun _ => ⟨rfl, rfl, rfl⟩
    | succ m ih =>
      intro hm
      obtain ⟨i1, i2, i3⟩ := ih (by omega)
      have e : (if m ≤ d then g m else 0) = g m := if_pos (by omega)
      refine ⟨funext fun N => ?_, funext fun N => ?_, ?_⟩
      · show pe _ m N + (if m ≤ d then g m else 0) * N ^ m = pe g m N + g m * N ^ m; rw [i1, e]
      · show pd _ m N + m * (if m ≤ d then g m else 0) * N ^ (m - 1) = pd g m N + m * g m * N ^ (m - 1); rw [i2, e]
      · show nb _ m + (if m ≤ d then g m else 0).natAbs = nb g m + (g m).natAbs; rw [i3, e]
  obtain ⟨k1, k2, k3⟩ := key (d + 1) (Nat.le_refl _)
  have z : (if d + 1 ≤ d then g (d + 1) else 0) = 0 := if_neg (by omega)
  refine ⟨fun k => if k ≤ d then g k else 0, fun N => ?_, fun N => ?_, ?_, z⟩
  · show F N = pe _ (d + 1) N + (if d + 1 ≤ d then g (d + 1) else 0) * N ^ (d + 1); rw [k1, z, a1]; grind
  · show G N = pd _ (d + 1) N + ((d + 1 : Nat) : Int) * (if d + 1 ≤ d then g (d + 1) else 0) * N ^ (d + 1 - 1); rw [k2, z, a2]; grind
  · show nb _ (d + 1) + (if d + 1 ≤ d then g (d + 1) else 0).natAbs ≤ B; rw [k3, z]; exact a3
theorem Po.shift {d B : Nat} {T : Int} {F G : Int → Int} (h : Po d B T F G) : Po (d + 1) B T (fun N => N * F N) (fun N => N * G N + F N) := by
  obtain ⟨g, a1, a2, a3, a4⟩ := h
  exact ⟨shf g, fun N => by rw [pe_shf, ← a1], fun N => by rw [pd_shf, ← a2, ← a1], by rw [nb_shf]; exact a3, by rw [← a4]; unfold shf; rw [if_neg (by omega)]; rfl⟩
theorem Po.weak {d B B' : Nat} {T : Int} {F G : Int → Int} (h : Po d B T F G) (hB : B ≤ B') : Po d B' T F G := by
  obtain ⟨g, a1, a2, a3, a4⟩ := h
  exact ⟨g, a1, a2, Nat.le_trans a3 hB, a4⟩
theorem Po.congr {d B : Nat} {T T' : Int} {F G F' G' : Int → Int} (h : Po d B T F G) (e1 : ∀ N, F N = F' N) (e2 : ∀ N, G N = G' N) (e3 : T = T') : Po d B T' F' G' := by
  obtain ⟨g, a1, a2, a3, a4⟩ := h
  exact ⟨g, fun N => by rw [← e1, a1], fun N => by rw [← e2, a2], a3, a4.trans e3⟩
/-- A number and a variable times another one. -/
theorem Po.aff {d B : Nat} {T : Int} {F G : Int → Int} (a b : Int) (h : Po d B T F G) : Po (d + 1) ((b.natAbs + a.natAbs) * B) (a * T) (fun N => (b + N * a) * F N) (fun N => (b + N * a) * G N + a * F N) :=
  (((h.more.mul b).add (h.shift.mul a)).weak (Nat.le_of_eq (by rw [Nat.add_mul]))).congr (fun N => by grind) (fun N => by grind) (by grind)
theorem po_zero (d : Nat) : Po d 0 0 (fun _ => 0) (fun _ => 0) := by
  have k : ∀ m : Nat, ∀ N, pe (fun _ => 0) m N = 0 ∧ pd (fun _ => 0) m N = 0 ∧ nb (fun _ => 0) m = 0 := fun m N => by
    induction m with
    | zero => exact ⟨rfl, rfl, rfl⟩
    | succ m ih =>
      obtain ⟨i1, i2, i3⟩ := ih
      refine ⟨?_, ?_, ?_⟩
      · show pe _ m N + 0 * N ^ m = 0; rw [i1]; grind
      · show pd _ m N + m * 0 * N ^ (m - 1) = 0; rw [i2]; grind
      · show nb _ m + 0 = 0; rw [i3]
  exact ⟨fun _ => 0, fun N => (k _ N).1.symm, fun N => (k _ N).2.1.symm, Nat.le_of_eq (k _ 0).2.2, rfl⟩
/-- A row: a part that stands still, a part that goes with the variable. -/
def rN (N : Int) (r : (Nat → Int) × (Nat → Int)) (c : Nat) : Int := r.2 c + N * r.1 c
def wR (r : (Nat → Int) × (Nat → Int)) (cs : List Nat) : Nat := (cs.map fun c => (r.2 c).natAbs + (r.1 c).natAbs).sum
def dD : List ((Nat → Int) × (Nat → Int)) → List Nat → Int → Int
  | [], _, _ => 0
  | r :: R, cs, N => rowZ (rN N r) cs (fun rest => dD R rest N) + rowZ r.1 cs (dZ (R.map (rN N)))
theorem po_row {d B : Nat} (r : (Nat → Int) × (Nat → Int)) : ∀ (cs : List Nat) (t : List Nat → Int) (h h' : Int → List Nat → Int), (∀ rest, rest.Sublist cs → rest.length + 1 = cs.length → Po d B (t rest) (fun N => h N rest) (fun N => h' N rest)) →
    Po (d + 1) (wR r cs * B) (rowZ r.1 cs t) (fun N => rowZ (rN N r) cs (h N)) (fun N => rowZ (rN N r) cs (h' N) + rowZ r.1 cs (h N))
  | [], t, h, h', _ => ((po_zero (d + 1)).weak (Nat.zero_le _)).congr (fun _ => rfl) (fun _ => rfl) rfl
  | c :: cs, t, h, h', hh => by
    have p1 := (hh cs (List.sublist_cons_self c cs) rfl).aff (r.1 c) (r.2 c)
    have p2 := (po_row r cs (fun rest => t (c :: rest)) (fun N rest => h N (c :: rest)) (fun N rest => h' N (c :: rest)) fun rest hs hl => hh (c :: rest) (hs.cons_cons c) (by simp; omega)).mul (-1)
    refine ((p1.add p2).weak (Nat.le_of_eq ?_)).congr (fun N => ?_) (fun N => ?_) ?_
    · show ((r.2 c).natAbs + (r.1 c).natAbs) * B + 1 * (wR r cs * B) = wR r (c :: cs) * B
      unfold wR
      rw [List.map_cons, List.sum_cons, Nat.one_mul, ← Nat.add_mul]
    · show (r.2 c + N * r.1 c) * h N cs + -1 * rowZ (rN N r) cs _ = rN N r c * h N cs - rowZ (rN N r) cs _
      unfold rN; grind
    · show (r.2 c + N * r.1 c) * h' N cs + r.1 c * h N cs + -1 * (rowZ (rN N r) cs _ + rowZ r.1 cs _) = rN N r c * h' N cs - rowZ (rN N r) cs _ + (r.1 c * h N cs - rowZ r.1 cs _)
      unfold rN; grind
    · show r.1 c * t cs + -1 * rowZ r.1 cs _ = r.1 c * t cs - rowZ r.1 cs _
      grind
theorem wR_mono (r : (Nat → Int) × (Nat → Int)) {cs ds : List Nat} (h : cs.Sublist ds) : wR r cs ≤ wR r ds := by
  unfold wR
  induction h with
  | slnil => exact Nat.le_refl _
  | cons a _ ih => rw [List.map_cons, List.sum_cons]; omega
  | cons_cons a _ ih => rw [List.map_cons, List.sum_cons, List.map_cons, List.sum_cons]; omega
theorem po_det (ds : List Nat) : ∀ (R : List ((Nat → Int) × (Nat → Int))) (cs : List Nat), cs.Sublist ds → Po R.length ((R.map fun r => wR r ds).foldr (· * ·) 1) (dZ (R.map (·.1)) cs) (fun N => dZ (R.map (rN N)) cs) (fun N => dD R cs N)
  | [], cs, _ => by
    refine ⟨fun _ => if cs = [] then 1 else 0, fun N => ?_, fun N => ?_, ?_, rfl⟩
    · show (if cs = [] then (1 : Int) else 0) = 0 + (if cs = [] then (1 : Int) else 0) * N ^ 0; grind
    · show (0 : Int) = 0 + ((0 : Nat) : Int) * _ * N ^ (0 - 1); grind
    · show 0 + (if cs = [] then (1 : Int) else 0).natAbs ≤ 1; split <;> decide
  | r :: R, cs, hc => by
    refine ((po_row (d := R.length) (B := (R.map fun r => wR r ds).foldr (· * ·) 1) r cs (dZ (R.map (·.1))) (fun N => dZ (R.map (rN N))) (fun N rest => dD R rest N) fun rest hs _ => po_det ds R rest (hs.trans hc)).weak ?_).congr (fun _ => rfl) (fun _ => rfl) rfl
    show _ ≤ wR r ds * _
    exact Nat.mul_le_mul_right _ (wR_mono r hc)
/-- A polynomial that is nought everywhere has no coefficients. -/
theorem pe_null : ∀ (d : Nat) (g : Nat → Int), (∀ N, pe g d N = 0) → ∀ k, k < d → g k = 0
  | 0, _, _, k, hk => by omega
  | d + 1, g, h, k, hk => by
    have e1 : ∀ m N, pe (fun k => g k * (2 ^ k - 2 ^ d)) m N = pe g m (2 * N) - 2 ^ d * pe g m N := fun m N => by
      induction m with
      | zero => show (0 : Int) = 0 - 2 ^ d * 0; grind
      | succ m ih =>
        show pe _ m N + g m * (2 ^ m - 2 ^ d) * N ^ m = pe g m (2 * N) + g m * (2 * N) ^ m - 2 ^ d * (pe g m N + g m * N ^ m)
        rw [ih, Int.mul_pow]; grind
    have e2 : ∀ N, pe (fun k => g k * (2 ^ k - 2 ^ d)) d N = 0 := fun N => by
      have h1 := h (2 * N)
      have h2 := h N
      have h3 : pe g d (2 * N) + g d * (2 * N) ^ d = 0 := h1
      have h4 : pe g d N + g d * N ^ d = 0 := h2
      rw [Int.mul_pow] at h3
      rw [e1]
      grind
    have low : ∀ k, k < d → g k = 0 := fun k hk => by
      have h1 := pe_null d _ e2 k hk
      rcases Int.mul_eq_zero.1 h1 with q | q
      · exact q
      · have h2 : (2 : Int) ^ d = 2 ^ k * 2 ^ (d - k) := by rw [← Int.pow_add, show k + (d - k) = d by omega]
        have h3 : (2 : Int) ^ (d - k) = 2 * 2 ^ (d - k - 1) := by rw [show d - k = (d - k - 1) + 1 by omega, Int.pow_succ]; grind
        have p1 : (0 : Int) < 2 ^ k := Int.pow_pos (by decide)
        have p2 : (0 : Int) < 2 ^ (d - k - 1) := Int.pow_pos (by decide)
        have p3 := Int.mul_pos p1 p2
        exfalso
        rw [h2, h3] at q
        generalize (2 : Int) ^ k = a at *
        generalize (2 : Int) ^ (d - k - 1) = b at *
        have q2 : a * (1 - 2 * b) = 0 := by rw [Int.mul_sub]; grind
        rcases Int.mul_eq_zero.1 q2 with r | r <;> omega
    rcases Nat.lt_or_ge k d with q | q
    · exact low k q
    · obtain rfl : k = d := by omega
      have h1 := h 1
      have h2 : pe g k 1 + g k * 1 ^ k = 0 := h1
      have h3 : ∀ m, m ≤ k → pe g m 1 = 0 := fun m => by
        induction m with
        | zero => exact fun _ => rfl
        | succ m ih => intro hm; show pe g m 1 + g m * 1 ^ m = 0; rw [ih (by omega), low m (by omega)]; grind
      rw [h3 k (Nat.le_refl _), Int.one_pow] at h2
      omega
/-- Coefficients are told by the values. -/
theorem pe_one {d : Nat} {g h : Nat → Int} (e : ∀ N, pe g d N = pe h d N) : ∀ k, k < d → g k = h k := fun k hk => by
  have := pe_null d (fun k => g k + -1 * h k) (fun N => by rw [pe_add, pe_mul, e]; grind) k hk
  have h2 : g k + -1 * h k = 0 := this
  omega
def si : Nat → (Nat → Int) → Int
  | 0, _ => 0
  | n + 1, f => si n f + f n
theorem si_congr {n : Nat} {f g : Nat → Int} (h : ∀ i, i < n → f i = g i) : si n f = si n g := by
  induction n with
  | zero => rfl
  | succ n ih => show si n f + f n = si n g + g n; rw [ih fun i hi => h i (by omega), h n (by omega)]
theorem si_zero (n : Nat) : si n (fun _ => 0) = 0 := by
  induction n with
  | zero => rfl
  | succ n ih => show si n _ + 0 = 0; rw [ih]; rfl
theorem si_add (n : Nat) (f g : Nat → Int) : si n (fun i => f i + g i) = si n f + si n g := by
  induction n with
  | zero => rfl
  | succ n ih => show si n _ + (f n + g n) = si n f + f n + (si n g + g n); rw [ih]; omega
theorem si_mul (n : Nat) (k : Int) (f : Nat → Int) : si n (fun i => k * f i) = k * si n f := by
  induction n with
  | zero => exact (Int.mul_zero k).symm
  | succ n ih => show si n _ + k * f n = k * (si n f + f n); rw [ih, Int.mul_add]
theorem si_one {n : Nat} {f : Nat → Int} {p : Nat} (hp : p < n) (h : ∀ i, i < n → i ≠ p → f i = 0) : si n f = f p := by
  induction n with
  | zero => omega
  | succ n ih =>
    show si n f + f n = f p
    rcases Nat.lt_or_ge p n with q | q
    · rw [ih q fun i hi hn => h i (by omega) hn, h n (by omega) (by omega)]; omega
    · obtain rfl : p = n := by omega
      rw [si_congr (g := fun _ => 0) fun i hi => h i (by omega) (by omega), si_zero]; omega
theorem si_list (n : Nat) (f : Nat → Int) : si n f = ((List.range n).map f).sum := by
  induction n with
  | zero => rfl
  | succ n ih => rw [List.range_succ, List.map_append, List.sum_append]; show si n f + f n = _; rw [ih]; simp
theorem pe_si (n : Nat) (g : Nat → Nat → Int) (N : Int) : ∀ d, pe (fun k => si n fun i => g i k) d N = si n fun i => pe (g i) d N := fun d => by
  induction n with
  | zero => induction d with
    | zero => rfl
    | succ d ih => show pe _ d N + (0 : Int) * N ^ d = 0; have : pe (fun k => si 0 fun i => g i k) d N = 0 := ih
                   rw [this]; grind
  | succ n ih => show pe (fun k => (si n fun i => g i k) + g n k) d N = (si n fun i => pe (g i) d N) + pe (g n) d N; rw [pe_add, ih]
def ev (c : Nat) : Nat → Int := fun x => if x = c then 1 else 0
theorem dZ_row (X Y : List (Nat → Int)) {v w : Nat → Int} : ∀ (cs : List Nat), (∀ c ∈ cs, v c = w c) → dZ (X ++ v :: Y) cs = dZ (X ++ w :: Y) cs := by
  induction X with
  | nil => exact fun cs h => rowZ_ext v w cs _ _ h fun _ _ _ => rfl
  | cons x X ih => exact fun cs h => rowZ_ext x x cs _ _ (fun _ _ => rfl) fun rest _ hr => ih rest fun c hc => h c (hr c hc)
theorem dZ_nul (X Y : List (Nat → Int)) (cs : List Nat) : dZ (X ++ (fun _ => 0) :: Y) cs = 0 := by
  have h := dZ_lin X Y (fun _ => 0) (fun _ => 0) (-1) cs
  have e : (fun c : Nat => (0 : Int) + -1 * 0) = fun _ => 0 := rfl
  rw [e] at h
  omega
/-- A row in its parts. -/
theorem dZ_parts (X Y : List (Nat → Int)) (v : Nat → Int) (n : Nat) : dZ (X ++ v :: Y) (List.range n) = si n fun c => v c * dZ (X ++ ev c :: Y) (List.range n) := by
  have key : ∀ m, m ≤ n → dZ (X ++ (fun x => if x < m then v x else 0) :: Y) (List.range n) = si m fun c => v c * dZ (X ++ ev c :: Y) (List.range n) := fun m => by
    induction m with
    | zero => intro _; exact (dZ_row X Y _ fun c _ => if_neg (Nat.not_lt_zero c)).trans (dZ_nul X Y _)
    | succ m ih =>
      intro hm
      show _ = (si m fun c => v c * dZ (X ++ ev c :: Y) (List.range n)) + v m * dZ (X ++ ev m :: Y) (List.range n)
      rw [← ih (by omega), ← dZ_lin]
      refine dZ_row X Y _ fun c _ => ?_
      show (if c < m + 1 then v c else 0) = (if c < m then v c else 0) + v m * (if c = m then 1 else 0)
      by_cases h1 : c < m
      · rw [if_pos h1, if_pos (by omega), if_neg (by omega)]; omega
      · by_cases h2 : c = m
        · subst h2; rw [if_neg h1, if_pos (by omega), if_pos rfl]; omega
        · rw [if_neg h1, if_neg (by omega), if_neg h2]; omega
  rw [← key n (Nat.le_refl n)]
  exact dZ_row X Y _ fun c hc => (if_pos (List.mem_range.1 hc)).symm
theorem rng_split {n i : Nat} (h : i < n) : List.range n = List.range i ++ i :: List.range' (i + 1) (n - i - 1) := by
  rw [List.range_eq_range', List.range_eq_range', show n = i + (1 + (n - i - 1)) by omega, List.range'_append_1.symm, Nat.zero_add]
  congr 1
  rw [show i + (1 + (n - i - 1)) - i - 1 = n - i - 1 by omega, Nat.add_comm 1, List.range'_succ]
theorem dZ_split {n i : Nat} (hi : i < n) (r : Nat → Nat → Int) (v : Nat → Int) (cs : List Nat) : dZ ((List.range n).map fun k => if k = i then v else r k) cs = dZ ((List.range i).map r ++ v :: (List.range' (i + 1) (n - i - 1)).map r) cs := by
  rw [rng_split hi, List.map_append, List.map_cons, if_pos rfl, List.map_congr_left (g := r) fun k hk => if_neg (by have := List.mem_range.1 hk; omega), List.map_congr_left (l := List.range' (i + 1) (n - i - 1)) (g := r) fun k hk => if_neg (by have := (List.mem_range'_1.1 hk).1; omega)]
/-- Two rows that are one. -/
theorem dZ_two (X Y Z : List (Nat → Int)) (a : Nat → Int) (cs : List Nat) : dZ (X ++ a :: (Y ++ a :: Z)) cs = 0 := by
  rw [dZ_front, ← List.append_assoc, dZ_same, Int.mul_zero]
theorem dZ_eqs {l : List Nat} (f : Nat → Nat → Int) {i k : Nat} (hi : i ∈ l) (hk : k ∈ l) (hik : i ≠ k) (e : f i = f k) (cs : List Nat) : dZ (l.map f) cs = 0 := by
  obtain ⟨X, Y, rfl⟩ := List.append_of_mem hi
  rcases List.mem_append.1 hk with q | q
  · obtain ⟨X1, X2, rfl⟩ := List.append_of_mem q
    rw [List.map_append, List.map_append, List.map_cons, List.map_cons, e, List.append_assoc, List.cons_append]
    exact dZ_two _ _ _ _ _
  · rcases List.mem_cons.1 q with q | q
    · exact absurd q.symm hik
    · obtain ⟨Y1, Y2, rfl⟩ := List.append_of_mem q
      rw [List.map_append, List.map_cons, List.map_append, List.map_cons, e]
      exact dZ_two _ _ _ _ _
section
variable (n : Nat) (A : Nat → Nat → Int)
/-- The rows of the variable less the table. -/
def rwC (N : Int) (i : Nat) : Nat → Int := rN N (ev i, fun c => -A i c)
def chF (N : Int) : Int := dZ ((List.range n).map (rwC A N)) (List.range n)
def adF (c i : Nat) (N : Int) : Int := dZ ((List.range n).map fun k => if k = i then ev c else rwC A N k) (List.range n)
theorem ad_row {i k : Nat} (hi : i < n) (hk : k < n) (N : Int) : (si n fun c => rwC A N k c * adF n A c i N) = if k = i then chF n A N else 0 := by
  unfold adF
  rw [si_congr fun c _ => by rw [dZ_split hi], ← dZ_parts, ← dZ_split hi]
  by_cases h : k = i
  · rw [if_pos h, h]
    unfold chF
    congr 1
    exact List.map_congr_left fun j _ => by split <;> simp_all
  · rw [if_neg h]
    exact dZ_eqs _ (List.mem_range.2 hi) (List.mem_range.2 hk) (Ne.symm h) (by rw [if_pos rfl, if_neg h]) _
end
theorem rowZ_si (a : Nat → Int) (cs : List Nat) (l : List Nat) (h : Nat → List Nat → Int) : rowZ a cs (fun rest => (l.map fun i => h i rest).sum) = (l.map fun i => rowZ a cs (h i)).sum := by
  induction l with
  | nil =>
    show rowZ a cs (fun _ => 0) = 0
    have := rowZ_mul a 0 cs (fun _ => 0)
    rw [show (fun _ : List Nat => (0 : Int) * 0) = fun _ => 0 from rfl] at this
    omega
  | cons i l ih =>
    have := rowZ_lin2 a 1 cs (h i) (fun rest => (l.map fun i => h i rest).sum)
    rw [ih] at this
    rw [List.map_cons, List.sum_cons]
    have e : (fun rest => ((i :: l).map fun i => h i rest).sum) = fun rest => h i rest + 1 * (l.map fun i => h i rest).sum := funext fun rest => by rw [List.map_cons, List.sum_cons]; omega
    rw [e, this]; omega
/-- The slope of a determinant: each row in turn by its slope. -/
theorem dD_sum (ab : Nat → (Nat → Int) × (Nat → Int)) (N : Int) : ∀ (l : List Nat) (cs : List Nat), l.Nodup → dD (l.map ab) cs N = (l.map fun i => dZ (l.map fun k => if k = i then (ab k).1 else rN N (ab k)) cs).sum
  | [], _, _ => rfl
  | k :: l, cs, hn => by
    obtain ⟨h1, h2⟩ := List.nodup_cons.1 hn
    show rowZ (rN N (ab k)) cs (fun rest => dD (l.map ab) rest N) + rowZ (ab k).1 cs (dZ ((l.map ab).map (rN N))) = _
    rw [List.map_cons, List.sum_cons, List.map_cons, if_pos rfl]
    have e1 : (l.map fun j => if j = k then (ab j).1 else rN N (ab j)) = (l.map ab).map (rN N) := by
      rw [List.map_map]
      exact List.map_congr_left fun j hj => if_neg fun (e : j = k) => h1 (by rw [← e]; exact hj)
    have e2 : (l.map fun i => dZ ((k :: l).map fun j => if j = i then (ab j).1 else rN N (ab j)) cs) = l.map fun i => rowZ (rN N (ab k)) cs (dZ (l.map fun j => if j = i then (ab j).1 else rN N (ab j))) := List.map_congr_left fun i hi => by
      rw [List.map_cons, if_neg fun (e : k = i) => h1 (by rw [e]; exact hi)]
      rfl
    rw [e1, e2, show (fun rest => dD (l.map ab) rest N) = fun rest => (l.map fun i => dZ (l.map fun j => if j = i then (ab j).1 else rN N (ab j)) rest).sum from funext fun rest => dD_sum ab N l rest h2, rowZ_si]
    show _ + rowZ (ab k).1 cs (dZ ((l.map ab).map (rN N))) = dZ ((ab k).1 :: (l.map ab).map (rN N)) cs + _
    show _ = rowZ (ab k).1 cs (dZ ((l.map ab).map (rN N))) + _
    omega
theorem rowZ_no (a : Nat → Int) : ∀ (cs : List Nat) (h : List Nat → Int), (∀ c ∈ cs, a c = 0) → rowZ a cs h = 0
  | [], _, _ => rfl
  | c :: cs, h, hz => by
    show a c * h cs - rowZ a cs _ = 0
    rw [hz c List.mem_cons_self, rowZ_no a cs _ fun x hx => hz x (List.mem_cons_of_mem _ hx)]; omega
theorem dZ_id : ∀ (l : List Nat), l.Nodup → dZ (l.map ev) l = 1
  | [], _ => rfl
  | k :: l, hn => by
    obtain ⟨h1, h2⟩ := List.nodup_cons.1 hn
    show ev k k * dZ (l.map ev) l - rowZ (ev k) l _ = 1
    rw [rowZ_no (ev k) l _ fun c hc => if_neg fun (e : c = k) => h1 (by rw [← e]; exact hc), dZ_id l h2]
    show (if k = k then (1 : Int) else 0) * 1 - 0 = 1
    rw [if_pos rfl]; omega
/-- How great the coefficients are at most. -/
def bdC (n : Nat) (A : Nat → Nat → Int) : Nat := ((List.range n).map fun i => 1 + ((List.range n).map fun c => (A i c).natAbs).sum).foldr (· * ·) 1
theorem fold_mono {α : Type} (f g : α → Nat) : ∀ l : List α, (∀ x ∈ l, f x ≤ g x) → (l.map f).foldr (· * ·) 1 ≤ (l.map g).foldr (· * ·) 1
  | [], _ => Nat.le_refl _
  | x :: l, h => Nat.mul_le_mul (h x List.mem_cons_self) (fold_mono f g l fun y hy => h y (List.mem_cons_of_mem _ hy))
theorem wR_ch (n : Nat) (A : Nat → Nat → Int) (i : Nat) : wR (ev i, fun c => -A i c) (List.range n) ≤ 1 + ((List.range n).map fun c => (A i c).natAbs).sum := by
  unfold wR
  have key : ∀ m, ((List.range m).map fun c => (-A i c).natAbs + (ev i c).natAbs).sum ≤ (if i < m then 1 else 0) + ((List.range m).map fun c => (A i c).natAbs).sum := fun m => by
    induction m with
    | zero => exact Nat.zero_le _
    | succ m ih =>
      rw [List.range_succ, List.map_append, List.map_append, List.sum_append, List.sum_append]
      simp only [List.map_cons, List.map_nil, List.sum_cons, List.sum_nil]
      have e1 : (-A i m).natAbs = (A i m).natAbs := Int.natAbs_neg _
      have e2 : (ev i m).natAbs = if m = i then 1 else 0 := by unfold ev; split <;> rfl
      rw [e1, e2]
      by_cases h1 : m = i
      · subst h1
        rw [if_neg (Nat.lt_irrefl _)] at ih
        rw [if_pos rfl, if_pos (by omega)]; omega
      · rw [if_neg h1]
        by_cases h2 : i < m
        · rw [if_pos h2] at ih; rw [if_pos (by omega)]; omega
        · rw [if_neg h2] at ih; rw [if_neg (by omega)]; omega
  have := key n
  show ((List.range n).map fun c => (-A i c).natAbs + (ev i c).natAbs).sum ≤ _
  split at this <;> omega
/-- THE CHARACTERISTIC COEFFICIENTS: whole numbers f and tables W made by the rule of Faddeev and LeVerrier. -/
theorem char_ex (n : Nat) (A : Nat → Nat → Int) : ∃ (f : Nat → Int) (W : Nat → Nat → Nat → Int), f 0 = 1 ∧ (∀ k, n < k → f k = 0) ∧ (∀ i j, i < n → j < n → W 0 i j = if i = j then 1 else 0) ∧
    (∀ k i j, i < n → j < n → W (k + 1) i j = (si n fun a => A i a * W k a j) + if i = j then f (k + 1) else 0) ∧ (∀ k, (si n fun i => si n fun a => A i a * W k a i) = -(((k + 1 : Nat) : Int) * f (k + 1))) ∧ (∀ k, (f k).natAbs ≤ bdC n A) ∧ f n = dZ ((List.range n).map fun i c => -A i c) (List.range n) := by
  have hR : ((List.range n).map fun i => ((ev i, fun c => -A i c) : (Nat → Int) × (Nat → Int))).length = n := by simp
  have hF := po_det (List.range n) ((List.range n).map fun i => (ev i, fun c => -A i c)) (List.range n) (List.Sublist.refl _)
  rw [hR, List.map_map, List.map_map] at hF
  have hT : dZ ((List.range n).map ((·.1) ∘ fun i => ((ev i, fun c => -A i c) : (Nat → Int) × (Nat → Int)))) (List.range n) = 1 := dZ_id _ List.nodup_range
  rw [hT] at hF
  obtain ⟨g, g1, g2, g3, g4⟩ := hF
  have g1' : ∀ N, chF n A N = pe g (n + 1) N := fun N => by
    rw [← g1]
    show dZ _ _ = dZ (List.map (rN N) _) _
    rw [List.map_map]; rfl
  have gB : ∀ k, k ≤ n → (g k).natAbs ≤ bdC n A := fun k hk => by
    refine Nat.le_trans (Nat.le_trans ?_ g3) (fold_mono _ _ _ fun i _ => wR_ch n A i)
    have key : ∀ d, k < d → (g k).natAbs ≤ nb g d := fun d => by
      induction d with
      | zero => intro h; omega
      | succ d ih =>
        intro h
        show _ ≤ nb g d + (g d).natAbs
        rcases Nat.lt_or_ge k d with q | q
        · have := ih q; omega
        · rw [show k = d by omega]; omega
    exact key (n + 1) (by omega)
  -- the places of the adjugate
  have hA : ∀ c i, ∃ u : Nat → Int, ∀ N, adF n A c i N = pe u (n + 1) N := fun c i => by
    have h := po_det (List.range n) ((List.range n).map fun k => if k = i then ((fun _ => 0, ev c) : (Nat → Int) × (Nat → Int)) else (ev k, fun c => -A k c)) (List.range n) (List.Sublist.refl _)
    rw [List.length_map, List.length_range] at h
    obtain ⟨u, u1, -⟩ := h
    refine ⟨u, fun N => ?_⟩
    rw [← u1]
    show dZ _ _ = dZ (List.map (rN N) _) _
    rw [List.map_map]
    congr 1
    refine List.map_congr_left fun k _ => ?_
    show (if k = i then ev c else rwC A N k) = rN N (if k = i then _ else _)
    by_cases q : k = i
    · rw [if_pos q, if_pos q]
      funext x
      show ev c x = ev c x + N * 0
      omega
    · rw [if_neg q, if_neg q]; rfl
  obtain ⟨u, hu⟩ : ∃ u : Nat → Nat → Nat → Int, ∀ c i N, adF n A c i N = pe (u c i) (n + 1) N := ⟨fun c i => Classical.choose (hA c i), fun c i => Classical.choose_spec (hA c i)⟩
  -- coefficient by coefficient
  have hc : ∀ k i, k < n → i < n → ∀ m, m < n + 2 → shf (u k i) m + -1 * (if m ≤ n then si n fun c => A k c * u c i m else 0) = if k = i then (if m ≤ n then g m else 0) else 0 := fun k i hk hi => by
    refine pe_one (d := n + 2) (g := fun m => shf (u k i) m + -1 * (if m ≤ n then si n fun c => A k c * u c i m else 0)) (h := fun m => if k = i then (if m ≤ n then g m else 0) else 0) fun N => ?_
    have cutp : ∀ (h : Nat → Int) N, pe (fun m => if m ≤ n then h m else 0) (n + 2) N = pe h (n + 1) N := fun h N => by
      have key : ∀ d, d ≤ n + 1 → pe (fun m => if m ≤ n then h m else 0) d N = pe h d N := fun d => by
        induction d with
        | zero => exact fun _ => rfl
        | succ d ih => intro hd; show pe _ d N + (if d ≤ n then h d else 0) * N ^ d = pe h d N + h d * N ^ d; rw [ih (by omega), if_pos (by omega)]
      show pe _ (n + 1) N + (if n + 1 ≤ n then h (n + 1) else 0) * N ^ (n + 1) = _
      rw [key _ (Nat.le_refl _), if_neg (by omega)]; grind
    rw [pe_add (shf (u k i)) (fun m => -1 * (if m ≤ n then si n fun c => A k c * u c i m else 0)), pe_mul (-1) (fun m => if m ≤ n then si n fun c => A k c * u c i m else 0), cutp, pe_shf, pe_si n (fun c m => A k c * u c i m), si_congr fun c _ => pe_mul (A k c) (u c i) N (n + 1)]
    have hr := ad_row n A hi hk N
    have e1 : (si n fun c => rwC A N k c * adF n A c i N) = N * adF n A k i N + -1 * si n fun c => A k c * adF n A c i N := by
      have e2 : (si n fun c => rwC A N k c * adF n A c i N) = (si n fun c => (if c = k then N * adF n A c i N else 0)) + si n fun c => -1 * (A k c * adF n A c i N) := by
        rw [← si_add]
        refine si_congr fun c _ => ?_
        show (-A k c + N * (if c = k then 1 else 0)) * adF n A c i N = _
        split <;> grind
      rw [e2, si_mul, si_one hk fun c _ hc => if_neg hc, if_pos rfl]
    rw [e1, hu, si_congr fun c _ => by rw [hu c i]] at hr
    rw [hr]
    by_cases q : k = i
    · rw [if_pos q, g1', ← cutp g N]
      congr 1
      funext m
      rw [if_pos q]
    · rw [if_neg q]
      have : (fun m => if k = i then (if m ≤ n then g m else 0) else 0) = fun _ => (0 : Int) := funext fun m => if_neg q
      rw [this]
      have z : ∀ d, pe (fun _ => 0) d N = 0 := fun d => by
        induction d with
        | zero => rfl
        | succ d ih => show pe _ d N + 0 * N ^ d = 0; rw [ih]; grind
      rw [z]
  -- the top
  have top : ∀ k i, k < n → i < n → u k i n = 0 := fun k i hk hi => by
    have h := hc k i hk hi (n + 1) (by omega)
    simp only [if_neg (show ¬ n + 1 ≤ n by omega), ite_self] at h
    have : shf (u k i) (n + 1) = u k i n := by unfold shf; rw [if_neg (by omega)]; rfl
    omega
  have mid : ∀ k i, k < n → i < n → ∀ m, m < n → u k i m = (si n fun c => A k c * u c i (m + 1)) + if k = i then g (m + 1) else 0 := fun k i hk hi m hm => by
    have h := hc k i hk hi (m + 1) (by omega)
    simp only [if_pos (show m + 1 ≤ n by omega)] at h
    have : shf (u k i) (m + 1) = u k i m := by unfold shf; rw [if_neg (by omega)]; rfl
    omega
  have low : ∀ k i, k < n → i < n → (si n fun c => A k c * u c i 0) + (if k = i then g 0 else 0) = 0 := fun k i hk hi => by
    have h := hc k i hk hi 0 (by omega)
    simp only [if_pos (show 0 ≤ n by omega)] at h
    have : shf (u k i) 0 = 0 := rfl
    omega
  -- the slope
  have slope : ∀ m, m < n → ((m + 1 : Nat) : Int) * g (m + 1) = si n fun i => u i i m := fun m hm => by
    have hs : ∀ N, pe (fun m => ((m + 1 : Nat) : Int) * g (m + 1)) n N = pe (fun m => si n fun i => u i i m) n N := fun N => by
      have e1 : dD ((List.range n).map fun i => (ev i, fun c => -A i c)) (List.range n) N = pd g (n + 1) N := g2 N
      rw [dD_sum _ N _ _ List.nodup_range] at e1
      have e2 : ((List.range n).map fun i => dZ ((List.range n).map fun k => if k = i then ev k else rN N (ev k, fun c => -A k c)) (List.range n)).sum = si n fun i => adF n A i i N := by
        rw [si_list]
        congr 1
        refine List.map_congr_left fun i _ => ?_
        unfold adF
        congr 1
        refine List.map_congr_left fun k _ => ?_
        by_cases q : k = i
        · rw [if_pos q, if_pos q, q]
        · rw [if_neg q, if_neg q]; rfl
      have e3 : ∀ d, pd g (d + 1) N = pe (fun m => ((m + 1 : Nat) : Int) * g (m + 1)) d N := fun d => by
        induction d with
        | zero => show (0 : Int) + ((0 : Nat) : Int) * g 0 * N ^ (0 - 1) = 0; grind
        | succ d ih =>
          show pd g (d + 1) N + ((d + 1 : Nat) : Int) * g (d + 1) * N ^ (d + 1 - 1) = _ + ((d + 1 : Nat) : Int) * g (d + 1) * N ^ d
          rw [ih]; rfl
      rw [← e3, pe_si n (fun i m => u i i m)]
      have e4 : (si n fun i => adF n A i i N) = si n fun i => pe (u i i) n N := si_congr fun i hi => by
        rw [hu]
        show pe (u i i) n N + u i i n * N ^ n = _
        rw [top i i hi hi]; grind
      rw [← e4, ← e2]
      exact e1.symm
    exact pe_one hs m hm
  refine ⟨fun k => if k ≤ n then g (n - k) else 0, fun k i j => if k < n then u i j (n - 1 - k) else 0, ?_, fun k hk => if_neg (by omega), fun i j hi hj => ?_, fun k i j hi hj => ?_, fun k => ?_, fun k => ?_, ?_⟩
  · show (if 0 ≤ n then g (n - 0) else 0) = 1
    rw [if_pos (Nat.zero_le _)]; exact g4
  · show (if 0 < n then u i j (n - 1 - 0) else 0) = _
    rw [if_pos (by omega), mid i j hi hj (n - 1 - 0) (by omega), show n - 1 - 0 + 1 = n by omega, si_congr (g := fun _ => 0) fun c hc => by rw [top c j hc hj]; omega, si_zero, g4]; omega
  · show (if k + 1 < n then u i j (n - 1 - (k + 1)) else 0) = (si n fun a => A i a * if k < n then u a j (n - 1 - k) else 0) + if i = j then (if k + 1 ≤ n then g (n - (k + 1)) else 0) else 0
    by_cases q : k + 1 < n
    · rw [if_pos q, mid i j hi hj _ (by omega), if_pos (show k + 1 ≤ n by omega), show n - 1 - (k + 1) + 1 = n - (k + 1) by omega]
      congr 1
      exact si_congr fun a _ => by rw [if_pos (by omega), show n - 1 - k = n - (k + 1) by omega]
    · rw [if_neg q]
      by_cases q2 : k + 1 = n
      · rw [if_pos (show k + 1 ≤ n by omega), si_congr (g := fun a => A i a * u a j 0) fun a _ => by rw [if_pos (by omega), show n - 1 - k = 0 by omega], show n - (k + 1) = 0 by omega, low i j hi hj]
      · rw [if_neg (show ¬ k + 1 ≤ n by omega), ite_self, si_congr (g := fun _ => 0) fun a _ => by rw [if_neg (by omega)]; omega, si_zero]; omega
  · show (si n fun i => si n fun a => A i a * if k < n then u a i (n - 1 - k) else 0) = -(((k + 1 : Nat) : Int) * if k + 1 ≤ n then g (n - (k + 1)) else 0)
    by_cases q : k < n
    · rw [if_pos (show k + 1 ≤ n by omega)]
      have tot : (si n fun i => si n fun a => A i a * if k < n then u a i (n - 1 - k) else 0) = (si n fun i => si n fun a => A i a * u a i (n - 1 - k)) := si_congr fun i _ => si_congr fun a _ => by rw [if_pos q]
      rw [tot]
      have hconst : ∀ x : Int, (si n fun _ => x) = n * x := fun x => by
        have : ∀ m : Nat, (si m fun _ => x) = m * x := fun m => by
          induction m with
          | zero => show (0 : Int) = ((0 : Nat) : Int) * x; omega
          | succ m ih => show si m _ + x = ((m + 1 : Nat) : Int) * x; rw [ih, Int.natCast_add]; grind
        exact this n
      rcases Nat.eq_zero_or_pos (n - 1 - k) with r | r
      · have hz : ∀ i, i < n → (si n fun a => A i a * u a i (n - 1 - k)) = -g 0 := fun i hi => by
          have := low i i hi hi
          rw [if_pos rfl] at this
          rw [r]; omega
        rw [si_congr hz, hconst, show n - (k + 1) = 0 by omega, show k + 1 = n by omega]; grind
      · obtain ⟨m, hm⟩ : ∃ m, n - 1 - k = m + 1 := ⟨n - 1 - k - 1, by omega⟩
        have hz : ∀ i, i < n → (si n fun a => A i a * u a i (n - 1 - k)) = u i i m + -1 * g (m + 1) := fun i hi => by
          have := mid i i hi hi m (by omega)
          rw [if_pos rfl] at this
          rw [hm]; omega
        have hsl := slope m (by omega)
        rw [si_congr hz, si_add, ← hsl, hconst, show n - (k + 1) = m + 1 by omega, show n = (m + 1) + (k + 1) by omega, Int.natCast_add (m + 1) (k + 1)]; grind
    · rw [if_neg (by omega), si_congr (g := fun _ => 0) fun i _ => by rw [si_congr (g := fun _ => 0) fun a _ => by rw [if_neg q]; omega, si_zero], si_zero]; omega
  · show (if k ≤ n then g (n - k) else 0).natAbs ≤ _
    split
    · exact gB _ (by omega)
    · exact Nat.zero_le _
  · show (if n ≤ n then g (n - n) else 0) = _
    rw [if_pos (Nat.le_refl _), Nat.sub_self]
    have e1 := g1' 0
    have e2 : ∀ d, pe g (d + 1) 0 = g 0 := fun d => by
      induction d with
      | zero => show (0 : Int) + g 0 * 0 ^ 0 = g 0; grind
      | succ d ih => show pe g (d + 1) 0 + g (d + 1) * 0 ^ (d + 1) = g 0; rw [ih, Int.pow_succ]; grind
    rw [e2] at e1
    rw [← e1]
    unfold chF
    congr 1
    refine List.map_congr_left fun i _ => funext fun c => ?_
    show -A i c + 0 * _ = -A i c
    omega
end Go.Proofs.Ytlcogbcpmneknaa
