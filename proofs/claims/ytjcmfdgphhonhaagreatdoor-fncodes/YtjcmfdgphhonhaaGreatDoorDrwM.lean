/- How plays are drawn, in plain words: bytes one after the other out of a source; how many signs are drawn and where the source stands then; that to draw again and again ends. No program is named here. -/
import Derived.WalkKit
namespace Go.Proofs.YtjcmfdgphhonhaaGreatDoor
open Go.RowKit
set_option linter.unusedVariables false

/-- What the cursor's number becomes. -/
def hF (h : Int) : Int := wrap64 (wrap64 (h * 6364136223846793005) + 1442695040888963407)
def mixF (h : Int) : Int := bits BinOp.and IntKind.i64 (bits BinOp.xor IntKind.i64 (h / 8589934592) (h / 35184372088832)) 255
/-- The next byte, of the number alone. -/
def nextH (h : Int) : Int × Int := (mixF (hF h), hF h)
/-- The next byte, the code's bytes mixed in as long as there are some. -/
def nextB (bs : List Int) (s : Nat × Int) : Int × (Nat × Int) :=
  match bs[s.1]? with
  | some b => (bits BinOp.and IntKind.i64 (mixF (hF s.2) + b) 255, (s.1 + 1, hF s.2))
  | none => (mixF (hF s.2), (s.1, hF s.2))
section
variable {σ : Type} (next : σ → Int × σ)
def drawG (s : σ) : σ := if (next s).1 % 6 = 1 then (next (next (next (next (next s).2).2).2).2).2 else (next (next s).2).2
def leafG (s : σ) : σ := if (next s).1 % 3 = 0 then drawG next (next s).2 else (next (next s).2).2
def sumG : Nat → σ → Nat × σ
  | 0, s => (1, leafG next s)
  | d + 1, s => if (next s).1 % 2 = 0 then (1, leafG next (next s).2) else (1 + (sumG d (next (next s).2).2).1 + (sumG d (sumG d (next (next s).2).2).2).1, (sumG d (sumG d (next (next s).2).2).2).2)
/-- One deed, behind its gate and its kind k have been drawn; 'sub': the deeds within. -/
def kindG (sub : Option (σ → Nat × σ)) (k : Int) (s : σ) : Nat × σ :=
  if k = 0 ∨ k = 1 then (3, (next s).2)
  else if k = 2 ∨ k = 3 ∨ k = 4 then (2 + (sumG next 2 s).1, (sumG next 2 s).2)
  else if k = 5 then
    match sub with
    | none => (0, s)
    | some f => (5 + (sumG next 2 s).1 + (f (sumG next 2 s).2).1 + (f (f (sumG next 2 s).2).2).1, (f (f (sumG next 2 s).2).2).2)
  else if k = 6 then
    match sub with
    | none => (0, s)
    | some f => (11 + (f (next (next s).2).2).1, (f (next (next s).2).2).2)
  else if k = 7 then (if (next s).1 % 4 = 0 then 1 else 0, (next s).2)
  else (2 + (sumG next 2 (next s).2).1, (sumG next 2 (next s).2).2)
def deedG (sub : Option (σ → Nat × σ)) (s : σ) : Nat × σ := kindG next sub ((next (next s).2).1 % 10) (next (next s).2).2
def timesG (f : σ → Nat × σ) : Nat → σ → Nat × σ
  | 0, s => (0, s)
  | n + 1, s => ((f s).1 + (timesG f n (f s).2).1, (timesG f n (f s).2).2)
def deedsG : Nat → Int → σ → Nat × σ
  | 0, most, s => timesG (deedG next none) ((next s).1 % most).toNat (next s).2
  | d + 1, most, s => timesG (deedG next (some (deedsG d 3))) ((next s).1 % most).toNat (next s).2

/-- So many bytes on. -/
def adv : Nat → σ → σ
  | 0, s => s
  | k + 1, s => adv k (next s).2
theorem adv_add (a b : Nat) (s : σ) : adv next (a + b) s = adv next b (adv next a s) := by
  induction a generalizing s with
  | zero => rw [Nat.zero_add]; rfl
  | succ a ih => rw [Nat.succ_add]; exact ih _
theorem adv_one (s : σ) : (next s).2 = adv next 1 s := rfl
/-- From s to s' by at least lo, at most hi bytes. -/
def Went (s s' : σ) (lo hi : Nat) : Prop := ∃ k, lo ≤ k ∧ k ≤ hi ∧ s' = adv next k s
variable {next}
theorem Went.one (s : σ) : Went next s (next s).2 1 1 := ⟨1, Nat.le_refl _, Nat.le_refl _, rfl⟩
theorem Went.trans {s s' s'' : σ} {a b c d : Nat} (h : Went next s s' a b) (k : Went next s' s'' c d) : Went next s s'' (a + c) (b + d) := by
  obtain ⟨x, h1, h2, rfl⟩ := h
  obtain ⟨y, k1, k2, rfl⟩ := k
  exact ⟨x + y, by omega, by omega, (adv_add next x y s).symm⟩
theorem Went.mono {s s' : σ} {a b c d : Nat} (h : Went next s s' a b) (h1 : c ≤ a) (h2 : b ≤ d) : Went next s s' c d := by
  obtain ⟨x, p, q, rfl⟩ := h
  exact ⟨x, by omega, by omega, rfl⟩
theorem went_draw (s : σ) : Went next s (drawG next s) 1 5 := by
  unfold drawG
  split
  · exact ((((Went.one s).trans (.one _)).trans (.one _)).trans (.one _)).trans (.one _) |>.mono (by omega) (by omega)
  · exact ((Went.one s).trans (.one _)).mono (by omega) (by omega)
theorem went_leaf (s : σ) : Went next s (leafG next s) 1 6 := by
  unfold leafG
  split
  · exact ((Went.one s).trans (went_draw _)).mono (by omega) (by omega)
  · exact ((Went.one s).trans (.one _)).mono (by omega) (by omega)
def sumB : Nat → Nat
  | 0 => 6
  | d + 1 => 2 + sumB d + sumB d
theorem sumB_ge : ∀ d, 6 ≤ sumB d
  | 0 => Nat.le_refl _
  | d + 1 => by have := sumB_ge d; unfold sumB; omega
theorem went_sum : ∀ (d : Nat) (s : σ), Went next s (sumG next d s).2 1 (sumB d)
  | 0, s => went_leaf s
  | d + 1, s => by
    have hd := sumB_ge d
    unfold sumG sumB
    split
    · exact ((Went.one s).trans (went_leaf _)).mono (by omega) (by omega)
    · exact ((((Went.one s).trans (.one _)).trans (went_sum d _)).trans (went_sum d _)).mono (by omega) (by omega)
theorem went_kind (sub : Option (σ → Nat × σ)) (S : Nat) (hsub : ∀ f, sub = some f → ∀ s, Went next s (f s).2 1 S) (k : Int) (s : σ) : Went next s (kindG next sub k s).2 0 (31 + S + S) := by
  have h2 : ∀ s, Went next s (sumG next 2 s).2 1 30 := fun s => went_sum 2 s
  unfold kindG
  split
  · exact (Went.one s).mono (by omega) (by omega)
  split
  · exact (h2 s).mono (by omega) (by omega)
  split
  · cases hf : sub with
    | none => exact ⟨0, by omega, by omega, rfl⟩
    | some f => exact (((h2 s).trans (hsub f hf _)).trans (hsub f hf _)).mono (by omega) (by omega)
  split
  · cases hf : sub with
    | none => exact ⟨0, by omega, by omega, rfl⟩
    | some f => exact (((Went.one s).trans (.one _)).trans (hsub f hf _)).mono (by omega) (by omega)
  split
  · exact (Went.one s).mono (by omega) (by omega)
  · exact ((Went.one s).trans (h2 _)).mono (by omega) (by omega)
theorem went_deed (sub : Option (σ → Nat × σ)) (S : Nat) (hsub : ∀ f, sub = some f → ∀ s, Went next s (f s).2 1 S) (s : σ) : Went next s (deedG next sub s).2 0 (33 + S + S) :=
  (((Went.one s).trans (.one _)).trans (went_kind sub S hsub _ _)).mono (by omega) (by omega)
theorem went_times (f : σ → Nat × σ) (S : Nat) (hf : ∀ s, Went next s (f s).2 0 S) : ∀ (n : Nat) (s : σ), Went next s (timesG f n s).2 0 (n * S)
  | 0, s => ⟨0, by omega, by omega, rfl⟩
  | n + 1, s => by
    have := (hf s).trans (went_times f S hf n (f s).2)
    rw [Nat.succ_mul]
    exact this.mono (by omega) (by omega)
theorem most_lt (x : Int) {m : Int} (h : 0 < m) : (x % m).toNat ≤ (m - 1).toNat := by
  have := Int.emod_lt_of_pos x h
  have := Int.emod_nonneg x (show m ≠ 0 by omega)
  omega
theorem went_low (s : σ) : Went next s (deedsG next 0 3 s).2 1 67 := by
  unfold deedsG
  have h := went_times (next := next) (deedG next none) 33 (fun s => (went_deed none 0 (fun f q => by cases q) s)) ((next s).1 % 3).toNat (next s).2
  have hm := most_lt (next s).1 (show (0 : Int) < 3 by omega)
  have h3 : ((next s).1 % 3).toNat * 33 ≤ 2 * 33 := Nat.mul_le_mul_right _ hm
  exact ((Went.one s).trans h).mono (by omega) (by omega)
theorem went_more (s : σ) : Went next s (deedsG next 1 4 s).2 1 502 := by
  unfold deedsG
  have h := went_times (next := next) (deedG next (some (deedsG next 0 3))) 167 (fun s => (went_deed _ 67 (fun f q => by cases q; exact went_low) s)) ((next s).1 % 4).toNat (next s).2
  have hm := most_lt (next s).1 (show (0 : Int) < 4 by omega)
  have h3 : ((next s).1 % 4).toNat * 167 ≤ 3 * 167 := Nat.mul_le_mul_right _ hm
  exact ((Went.one s).trans h).mono (by omega) (by omega)
end

theorem like_draw {σ τ : Type} {n1 : σ → Int × σ} {n2 : τ → Int × τ} {R : σ → τ → Prop} (hR : ∀ s t, R s t → (n1 s).1 = (n2 t).1 ∧ R (n1 s).2 (n2 t).2) {s : σ} {t : τ} (h : R s t) : R (drawG n1 s) (drawG n2 t) := by
  obtain ⟨e, h1⟩ := hR _ _ h
  have h2 := (hR _ _ h1).2
  unfold drawG
  rw [e]
  split
  · exact (hR _ _ (hR _ _ (hR _ _ h2).2).2).2
  · exact h2
theorem like_leaf {σ τ : Type} {n1 : σ → Int × σ} {n2 : τ → Int × τ} {R : σ → τ → Prop} (hR : ∀ s t, R s t → (n1 s).1 = (n2 t).1 ∧ R (n1 s).2 (n2 t).2) {s : σ} {t : τ} (h : R s t) : R (leafG n1 s) (leafG n2 t) := by
  obtain ⟨e, h1⟩ := hR _ _ h
  unfold leafG
  rw [e]
  split
  · exact like_draw hR h1
  · exact (hR _ _ h1).2
theorem like_sum {σ τ : Type} {n1 : σ → Int × σ} {n2 : τ → Int × τ} {R : σ → τ → Prop} (hR : ∀ s t, R s t → (n1 s).1 = (n2 t).1 ∧ R (n1 s).2 (n2 t).2) : ∀ (d : Nat) {s : σ} {t : τ}, R s t → (sumG n1 d s).1 = (sumG n2 d t).1 ∧ R (sumG n1 d s).2 (sumG n2 d t).2
  | 0, s, t, h => ⟨rfl, like_leaf hR h⟩
  | d + 1, s, t, h => by
    obtain ⟨e, h1⟩ := hR _ _ h
    obtain ⟨e2, h2⟩ := like_sum hR d (hR _ _ h1).2
    obtain ⟨e3, h3⟩ := like_sum hR d h2
    unfold sumG
    rw [e]
    split
    · exact ⟨rfl, like_leaf hR h1⟩
    · exact ⟨by show 1 + _ + _ = 1 + _ + _; rw [e2, e3], h3⟩
theorem like_kind {σ τ : Type} {n1 : σ → Int × σ} {n2 : τ → Int × τ} {R : σ → τ → Prop} (hR : ∀ s t, R s t → (n1 s).1 = (n2 t).1 ∧ R (n1 s).2 (n2 t).2) {f : Option (σ → Nat × σ)} {g : Option (τ → Nat × τ)} (hfg : (f = none ∧ g = none) ∨ ∃ a b, f = some a ∧ g = some b ∧ ∀ s t, R s t → (a s).1 = (b t).1 ∧ R (a s).2 (b t).2) (k : Int) {s : σ} {t : τ} (h : R s t) :
    (kindG n1 f k s).1 = (kindG n2 g k t).1 ∧ R (kindG n1 f k s).2 (kindG n2 g k t).2 := by
  obtain ⟨e, h1⟩ := hR _ _ h
  obtain ⟨e2, h2⟩ := like_sum hR 2 h
  obtain ⟨e3, h3⟩ := like_sum hR 2 h1
  unfold kindG
  split
  · exact ⟨rfl, h1⟩
  split
  · exact ⟨by show 2 + _ = 2 + _; rw [e2], h2⟩
  split
  · rcases hfg with ⟨rfl, rfl⟩ | ⟨a, b, rfl, rfl, hab⟩
    · exact ⟨rfl, h⟩
    · obtain ⟨e4, h4⟩ := hab _ _ h2
      obtain ⟨e5, h5⟩ := hab _ _ h4
      exact ⟨by show 5 + _ + _ + _ = 5 + _ + _ + _; rw [e2, e4, e5], h5⟩
  split
  · rcases hfg with ⟨rfl, rfl⟩ | ⟨a, b, rfl, rfl, hab⟩
    · exact ⟨rfl, h⟩
    · obtain ⟨e4, h4⟩ := hab _ _ (hR _ _ h1).2
      exact ⟨by show 11 + _ = 11 + _; rw [e4], h4⟩
  split
  · exact ⟨by show (if _ then 1 else 0) = (if _ then 1 else 0); rw [e], h1⟩
  · exact ⟨by show 2 + _ = 2 + _; rw [e3], h3⟩
theorem like_times {σ τ : Type} {R : σ → τ → Prop} {f : σ → Nat × σ} {g : τ → Nat × τ} (hfg : ∀ s t, R s t → (f s).1 = (g t).1 ∧ R (f s).2 (g t).2) : ∀ (n : Nat) {s : σ} {t : τ}, R s t → (timesG f n s).1 = (timesG g n t).1 ∧ R (timesG f n s).2 (timesG g n t).2
  | 0, s, t, h => ⟨rfl, h⟩
  | n + 1, s, t, h => by
    obtain ⟨e, h1⟩ := hfg _ _ h
    obtain ⟨e2, h2⟩ := like_times hfg n h1
    exact ⟨by show _ + _ = _ + _; rw [e, e2], h2⟩
theorem like_deeds {σ τ : Type} {n1 : σ → Int × σ} {n2 : τ → Int × τ} {R : σ → τ → Prop} (hR : ∀ s t, R s t → (n1 s).1 = (n2 t).1 ∧ R (n1 s).2 (n2 t).2) : ∀ (d : Nat) (most : Int) {s : σ} {t : τ}, R s t → (deedsG n1 d most s).1 = (deedsG n2 d most t).1 ∧ R (deedsG n1 d most s).2 (deedsG n2 d most t).2
  | 0, most, s, t, h => by
    obtain ⟨e, h1⟩ := hR _ _ h
    unfold deedsG
    rw [e]
    refine like_times (fun s t h => ?_) _ h1
    obtain ⟨_, h2⟩ := hR _ _ h
    obtain ⟨e3, h3⟩ := hR _ _ h2
    unfold deedG
    rw [e3]
    exact like_kind hR (.inl ⟨rfl, rfl⟩) _ h3
  | d + 1, most, s, t, h => by
    obtain ⟨e, h1⟩ := hR _ _ h
    unfold deedsG
    rw [e]
    refine like_times (fun s t h => ?_) _ h1
    obtain ⟨_, h2⟩ := hR _ _ h
    obtain ⟨e3, h3⟩ := hR _ _ h2
    unfold deedG
    rw [e3]
    exact like_kind hR (.inr ⟨_, _, rfl, rfl, fun s t h => like_deeds hR d 3 h⟩) _ h3

def checkW : Nat → Int → Bool
  | 0, _ => true
  | j + 1, h => decide ((deedsG nextH 1 4 h).1 ≤ 100) && checkW j (hF h)
set_option maxRecDepth 100000 in
theorem window : checkW 503 0 = true := by decide +kernel
theorem check_at : ∀ (n j : Nat) (h : Int), checkW n h = true → j < n → (deedsG nextH 1 4 (adv nextH j h)).1 ≤ 100
  | n + 1, 0, h, q, _ => by
    unfold checkW at q
    rw [Bool.and_eq_true] at q
    exact of_decide_eq_true q.1
  | n + 1, j + 1, h, q, hj => by
    unfold checkW at q
    rw [Bool.and_eq_true] at q
    exact check_at n j (hF h) q.2 (by omega)

/-- The number goes through all numbers: to begin with, through 0. -/
theorem hF_mod (h : Int) : ∃ q : Int, hF h = h * 6364136223846793005 + 1442695040888963407 + 18446744073709551616 * q := by
  unfold hF wrap64
  refine ⟨(((h * 6364136223846793005 + 9223372036854775808) % 18446744073709551616 - 9223372036854775808 + 1442695040888963407 + 9223372036854775808) % 18446744073709551616 - 9223372036854775808 - (h * 6364136223846793005 + 1442695040888963407)) / 18446744073709551616, ?_⟩
  omega
theorem hF_range (h : Int) : -9223372036854775808 ≤ hF h ∧ hF h < 9223372036854775808 := by
  unfold hF wrap64
  omega
theorem adv_hF (k : Nat) (h : Int) : adv nextH (k + 1) h = adv nextH k (hF h) := rfl
theorem step_pow : ∀ k : Nat, ∃ q r : Int, ∀ h : Int, ∃ m : Int, adv nextH (2 ^ k) h = (1 + 2 ^ (k + 2) * q) * h + 2 ^ k * (2 * r + 1) + 18446744073709551616 * m
  | 0 => ⟨1591034055961698251, 721347520444481703, fun h => by
    obtain ⟨m, e⟩ := hF_mod h
    refine ⟨m, ?_⟩
    show hF h = _
    rw [e]
    have : (2 : Int) ^ (0 + 2) = 4 := rfl
    rw [this, Int.pow_zero]
    omega⟩
  | k + 1 => by
    obtain ⟨q, r, hk⟩ := step_pow k
    refine ⟨q + 2 ^ (k + 1) * (q * q), r + 2 ^ k * (q * (2 * r + 1)), fun h => ?_⟩
    obtain ⟨m1, e1⟩ := hk h
    obtain ⟨m2, e2⟩ := hk (adv nextH (2 ^ k) h)
    refine ⟨(1 + 2 ^ (k + 2) * q) * m1 + m2, ?_⟩
    have hp : 2 ^ (k + 1) = 2 ^ k + 2 ^ k := by rw [Nat.pow_succ]; omega
    rw [hp, adv_add, e2, e1]
    have p1 : (2 : Int) ^ (k + 1) = 2 * 2 ^ k := by rw [Int.pow_succ]; exact Int.mul_comm _ _
    have p2 : (2 : Int) ^ (k + 2) = 4 * 2 ^ k := by rw [show k + 2 = (k + 1) + 1 from rfl, Int.pow_succ, p1]; omega
    have p3 : (2 : Int) ^ (k + 1 + 2) = 8 * 2 ^ k := by rw [show k + 1 + 2 = (k + 2) + 1 from rfl, Int.pow_succ, p2]; omega
    rw [p1, p2, p3]
    generalize (2 : Int) ^ k = P
    grind
theorem reach : ∀ k : Nat, k ≤ 64 → ∀ h : Int, ∃ (t : Nat) (m : Int), adv nextH t h = 2 ^ k * m
  | 0, _, h => ⟨0, h, by rw [Int.pow_zero, Int.one_mul]; rfl⟩
  | k + 1, hk, h => by
    obtain ⟨t, m, e⟩ := reach k (by omega) h
    have p1 : (2 : Int) ^ (k + 1) = 2 * 2 ^ k := by rw [Int.pow_succ]; exact Int.mul_comm _ _
    rcases (show m % 2 = 0 ∨ m % 2 = 1 by omega) with hm | hm
    · obtain ⟨n, rfl⟩ : ∃ n, m = 2 * n := ⟨m / 2, by omega⟩
      refine ⟨t, n, ?_⟩
      rw [e, p1]
      rw [← Int.mul_assoc, Int.mul_comm (2 ^ k) 2]
    · obtain ⟨n, rfl⟩ : ∃ n, m = 2 * n + 1 := ⟨m / 2, by omega⟩
      obtain ⟨q, r, hp⟩ := step_pow k
      obtain ⟨z, e2⟩ := hp (2 ^ k * (2 * n + 1))
      obtain ⟨c, hc⟩ : ∃ c : Int, (18446744073709551616 : Int) = 2 * 2 ^ k * c := ⟨2 ^ (63 - k), by
        rw [← p1, ← Int.pow_add, show k + 1 + (63 - k) = 64 by omega]
        rfl⟩
      have p2 : (2 : Int) ^ (k + 2) = 4 * 2 ^ k := by rw [show k + 2 = (k + 1) + 1 from rfl, Int.pow_succ, p1]; omega
      refine ⟨t + 2 ^ k, n + r + 1 + 2 * 2 ^ k * q * (2 * n + 1) + c * z, ?_⟩
      rw [adv_add, e, e2, hc, p1, p2]
      generalize (2 : Int) ^ k = P
      grind

theorem zero_at (h : Int) : ∃ t : Nat, adv nextH t h = 0 := by
  obtain ⟨t, m, e⟩ := reach 64 (Nat.le_refl _) (hF h)
  have p : (2 : Int) ^ 64 = 18446744073709551616 := rfl
  rw [p] at e
  have hr : -9223372036854775808 ≤ adv nextH t (hF h) ∧ adv nextH t (hF h) < 9223372036854775808 := by
    cases t with
    | zero => exact hF_range h
    | succ t =>
      have : ∀ (t : Nat) (x : Int), -9223372036854775808 ≤ adv nextH (t + 1) x ∧ adv nextH (t + 1) x < 9223372036854775808 := by
        intro t
        induction t with
        | zero => intro x; exact hF_range x
        | succ t ih => intro x; exact ih (hF x)
      exact this t _
  exact ⟨t + 1, by rw [adv_hF]; omega⟩

/-- Behind the code's bytes the number alone tells. -/
def Bare (bs : List Int) (s : Nat × Int) (h : Int) : Prop := bs.length ≤ s.1 ∧ s.2 = h
theorem bare_next (bs : List Int) (s : Nat × Int) (h : Int) (hb : Bare bs s h) : (nextB bs s).1 = (nextH h).1 ∧ Bare bs (nextB bs s).2 (nextH h).2 := by
  obtain ⟨h1, rfl⟩ := hb
  unfold nextB
  rw [List.getElem?_eq_none h1]
  exact ⟨rfl, h1, rfl⟩
theorem bare_adv (bs : List Int) : ∀ (k : Nat) (s : Nat × Int) (h : Int), Bare bs s h → Bare bs (adv (nextB bs) k s) (adv nextH k h)
  | 0, s, h, q => q
  | k + 1, s, h, q => bare_adv bs k _ _ (bare_next bs s h q).2
theorem adv_far (bs : List Int) : ∀ (k : Nat) (s : Nat × Int), bs.length ≤ s.1 + k → bs.length ≤ (adv (nextB bs) k s).1
  | 0, s, h => h
  | k + 1, s, h => by
    refine adv_far bs k _ ?_
    unfold nextB
    split
    · show bs.length ≤ s.1 + 1 + k; omega
    next q =>
      have := List.getElem?_eq_none_iff.1 q
      show bs.length ≤ s.1 + k
      omega
/-- From some place on, as long as to draw once can last, few signs are drawn. -/
theorem soon_few (bs : List Int) (s : Nat × Int) : ∃ T : Nat, ∀ j, T ≤ j → j ≤ T + 502 → (deedsG (nextB bs) 1 4 (adv (nextB bs) j s)).1 ≤ 100 := by
  have hb : Bare bs (adv (nextB bs) bs.length s) (adv (nextB bs) bs.length s).2 := ⟨adv_far bs _ _ (by omega), rfl⟩
  obtain ⟨t, ht⟩ := zero_at (adv (nextB bs) bs.length s).2
  refine ⟨bs.length + t, fun j h1 h2 => ?_⟩
  obtain ⟨i, rfl⟩ : ∃ i, j = bs.length + t + i := ⟨j - (bs.length + t), by omega⟩
  have h3 := bare_adv bs i _ _ (bare_adv bs t _ _ hb)
  rw [ht] at h3
  rw [adv_add, adv_add, (like_deeds (bare_next bs) 1 4 h3).1]
  exact check_at 503 i 0 window (by omega)

end Go.Proofs.YtjcmfdgphhonhaaGreatDoor
