import Derived.Test.YtgdjagbkpdndgaaGaO
import Derived.Test.YtgdjagbkpdndgaaGaL
import Derived.Test.YtgdjagbkpdndgaaGaM
namespace Go.Proofs
open Go.RowKit
set_option linter.unusedVariables false

/-! ### The first one that is asked for, plainly -/
def fAt (f : Int → Bool) : List Int → Nat
  | [] => 0
  | y :: l => if f y then 0 else fAt f l + 1
theorem fAt_le (f : Int → Bool) (l : List Int) : fAt f l ≤ l.length := by
  induction l with
  | nil => simp [fAt]
  | cons y l ih => unfold fAt; split <;> simp <;> omega
theorem fAt_none {f : Int → Bool} : ∀ {l : List Int}, ¬ fAt f l < l.length → NoF f l l.length := by
  intro l
  induction l with
  | nil => intro _ j hj; simp at hj
  | cons y l ih =>
    intro h j hj z hz
    unfold fAt at h
    by_cases hy : f y = true
    · rw [if_pos hy] at h; simp at h
    · rw [if_neg hy] at h
      cases j with
      | zero => simp at hz; subst hz; simpa using hy
      | succ j => exact ih (by simp at h; omega) j (by simpa using hj) z (by simpa using hz)
theorem fAt_some {f : Int → Bool} : ∀ {l : List Int}, fAt f l < l.length → (∃ x, l[fAt f l]? = some x ∧ f x = true) ∧ NoF f l (fAt f l) := by
  intro l
  induction l with
  | nil => intro h; simp at h
  | cons y l ih =>
    intro h
    unfold fAt at h ⊢
    by_cases hy : f y = true
    · rw [if_pos hy]
      exact ⟨⟨y, rfl, hy⟩, fun j hj => by omega⟩
    · rw [if_neg hy] at h ⊢
      obtain ⟨⟨x, h1, h2⟩, h3⟩ := ih (by simpa using h)
      refine ⟨⟨x, by simpa using h1, h2⟩, fun j hj z hz => ?_⟩
      cases j with
      | zero => simp at hz; subst hz; simpa using hy
      | succ j => exact h3 j (by omega) z (by simpa using hz)
theorem nof_one {f : Int → Bool} {l : List Int} {j k : Nat} {x y : Int} (hj : NoF f l j) (hk : NoF f l k) (hx : l[j]? = some x) (hy : l[k]? = some y) (fx : f x = true) (fy : f y = true) : j = k := by
  rcases Nat.lt_trichotomy j k with h | h | h
  · have := hk j h x hx; rw [fx] at this; cases this
  · exact h
  · have := hj k h y hy; rw [fy] at this; cases this
theorem fAt_num (g : Int) (l : List Int) : fAt (fun x => x == g) l = findAt g l := by
  induction l with
  | nil => rfl
  | cons y l ih =>
    unfold fAt findAt
    by_cases h : y = g
    · simp [h]
    · rw [if_neg (by simpa using h), if_neg h, ih]
theorem nu_erase (N : List (Nat × Int)) (k : Nat) : nu (N.eraseIdx k) = (nu N).eraseIdx k := by
  unfold nu
  refine List.ext_getElem? fun j => ?_
  rw [List.getElem?_map, List.getElem?_eraseIdx, List.getElem?_eraseIdx]
  split <;> rw [List.getElem?_map]
theorem bl_erase {N : List (Nat × Int)} {k b : Nat} (h : b ∈ bl (N.eraseIdx k)) : b ∈ bl N := by
  unfold bl at *
  exact ((List.eraseIdx_sublist N k).map _).subset h
/-- What find answers, once it is known where. -/
def Finds (f : Int → Bool) (N : List (Nat × Int)) (o : Option Nat) : Prop :=
  (fAt f (nu N) < N.length ∧ ∃ b x, N[fAt f (nu N)]? = some (b, x) ∧ f x = true ∧ o = some b) ∨ (¬ fAt f (nu N) < N.length ∧ o = none)
theorem finds_any (f : Int → Bool) (N : List (Nat × Int)) : ∃ o, Finds f N o := by
  by_cases h : fAt f (nu N) < N.length
  · obtain ⟨p, hp⟩ : ∃ p, N[fAt f (nu N)]? = some p := ⟨_, List.getElem?_eq_getElem h⟩
    obtain ⟨⟨x, h1, h2⟩, _⟩ := fAt_some (f := f) (l := nu N) (by rw [nu_len]; exact h)
    rw [nu_at hp] at h1
    exact ⟨some p.1, .inl ⟨h, p.1, p.2, hp, by rw [Option.some.inj h1]; exact h2, rfl⟩⟩
  · exact ⟨none, .inr ⟨h, rfl⟩⟩
theorem Found.is {f : Int → Bool} {N : List (Nat × Int)} {e : Ending} {o : Option Nat} (h : Found f N e) (ho : Finds f N o) : e = .returned (ptrV o) := by
  have hlen := nu_len N
  rcases h with ⟨k, b, x, h1, h2, h3, rfl⟩ | ⟨h1, rfl⟩ <;> rcases ho with ⟨h5, b', x', h6, h7, rfl⟩ | ⟨h5, rfl⟩
  · have hn := (fAt_some (f := f) (l := nu N) (by omega)).2
    have := nof_one h3 hn (nu_at h1) (nu_at h6) h2 h7
    subst this
    rw [h1] at h6
    simp at h6
    rw [h6.1]; rfl
  · have hkl := (List.getElem?_eq_some_iff.1 h1).1
    have := fAt_none (f := f) (l := nu N) (by omega) k (by omega) x (nu_at h1)
    rw [h2] at this; cases this
  · have := h1 _ h5 _ (nu_at h6)
    rw [h7] at this; cases this
  · rfl

def tkV (f : Int → Bool) (L : List Int) : Int := L.getD (fAt f L) 0
def tkB (f : Int → Bool) (L : List Int) : Bool := decide (fAt f L < L.length)
def tkL (f : Int → Bool) (L : List Int) : List Int := L.eraseIdx (fAt f L)
theorem tk_none {f : Int → Bool} {L : List Int} (h : ¬ fAt f L < L.length) : tkV f L = 0 ∧ tkB f L = false ∧ tkL f L = L := by
  refine ⟨?_, by unfold tkB; simpa using h, List.eraseIdx_of_length_le (by omega)⟩
  unfold tkV
  rw [List.getD_eq_getElem?_getD, List.getElem?_eq_none (by omega)]; rfl
theorem tk_some {f : Int → Bool} {L : List Int} {x : Int} (h : L[fAt f L]? = some x) : tkV f L = x ∧ tkB f L = true := by
  have hl := (List.getElem?_eq_some_iff.1 h).1
  refine ⟨?_, by unfold tkB; simpa using hl⟩
  unfold tkV
  rw [List.getD_eq_getElem?_getD, h]; rfl
section
variable {w w' : World} {q : Nat} {N : List (Nat × Int)}
theorem Turns.of_left {k b : Nat} {x : Int} {e : Ending} (H : QAt w q N) (h : Leaves w q N k b x e w') : Turns q N ((nu N).eraseIdx k) w w' :=
  ⟨_, h.2.1, nu_erase N k, fun j hj => .inl (bl_erase hj), h.2.2.1⟩
/-- The closure that asks for a number. -/
theorem number1_any {b : Nat} {g : Int} (h : Blk w b 3 #[.int .i64 g]) (x : Int) :
    Calls Try.prog 42 #[.int .i64 x, .pointer (some ⟨b, 0, none⟩)] w fun e w' => e = .returned (.bool (x == g)) ∧ ∃ q, w' = w.drewN q := by
  have k := h.cell 0
  simp only [List.getElem?_toArray, List.getElem?_cons_zero] at k
  clear h
  go_enter Try.func42, Try.ntmps42
  go_wp2
  go_ret
  exact ⟨rfl, 0, rfl⟩
theorem number_any (g : Int) (w : World) :
    Calls Try.prog 37 #[.int .i64 g] w fun e w' => ∃ c, e = .returned (.func (.func 42) #[] #[c]) ∧ Chg [] w w' ∧ ∀ W, Chg [] w' W → ∀ x : Int, Calls Try.prog 42 #[.int .i64 x, c] W fun e w' => e = .returned (.bool (x == g)) ∧ ∃ q, w' = W.drewN q := by
  go_enter Try.func37, Try.ntmps37
  go_wp2
  go_ret
  exact ⟨_, rfl, (Chg.refl _ _).alloc _, fun W hW x => number1_any ((Blk.new w 3 _).chg hW (by simp)) x⟩
theorem take_any {V : Value} {aff : List Int} (H : QAt w q N) (hN : N.length ≤ 100000) (hV : Bs w V aff) (p : Int) :
    Calls Try.prog 15 #[.pointer (some ⟨q, 0, none⟩), .int .i64 p, V] w fun e w' => e = .returned (.tuple #[.int .i64 (tkV (mayP aff p) (nu N)), .bool (tkB (mayP aff p) (nu N))]) ∧ Turns q N (tkL (mayP aff p) (nu N)) w w' := by
  obtain ⟨A, ac, rfl, _⟩ := id hV
  have hmr := mayRun_any hV p [] (fun _ h => by cases h) (.inr (fun _ _ h => by cases h))
  obtain ⟨f, hf⟩ : ∃ f, f = mayP aff p := ⟨_, rfl⟩
  rw [← hf] at hmr ⊢
  clear hf
  obtain ⟨an, han⟩ : ∃ an, an = aff.length := ⟨_, rfl⟩
  rw [← han] at hmr ⊢
  have HH := Lib.hid H
  obtain ⟨o, ho⟩ := finds_any f N
  have HO := Lib.hid ho
  have hfd := fun W c1 c2 (hW : Chg [] w W) (hM : MayF W [] c1 c2 f) => (find_may (H.quiet hW).rowed c1 c2 f (fun W' hW' x => hM W' hW' x)).mono (R' := fun e w' => e = .returned (ptrV o) ∧ Chg [] W w') (fun e w' ⟨h1, h2⟩ => ⟨h1.is HO.out, h2⟩)
  unfold ptrV at hfd
  clear hV han
  rcases ho with ⟨h5, b, x, h6, h7, rfl⟩ | ⟨h5, rfl⟩
  · have hlv := fun W (hW : Chg [] w W) => leave_any (H.quiet hW) (by omega) h6
    obtain ⟨t1, t2⟩ := tk_some (nu_at h6)
    have HT := Lib.hid (And.intro t1 t2)
    have H6 := Lib.hid h6
    clear h5 h6 h7 t1 t2 H
    go_enter Try.func15, Try.ntmps15
    go_wp2_with (first
      | (go_at_call 31; refine hmr.mono ?_; rintro e w1 ⟨c1, c2, rfl, hM, hc⟩; have HM := Lib.hid hM; have HC := Lib.hid hc; clear hM hc)
      | (go_at_call 33; refine (hfd _ _ _ HC.out HM.out).mono ?_; rintro e w2 ⟨rfl, hc2⟩; have HC2 := Lib.hid (HC.out.then hc2); clear hc2)
      | (go_at_call 34; refine (hlv _ HC2.out).mono ?_; rintro e w3 hL; have hx0 := hL.2.2.2; have HTu := Lib.hid ((Turns.of_left (HH.out.quiet HC2.out) hL).before HC2.out); obtain ⟨rfl, _⟩ := hL))
    go_ret2
    exact ⟨by rw [HT.out.1, HT.out.2]; rfl, HTu.out⟩
  · obtain ⟨t1, t2, t3⟩ := tk_none (f := f) (L := nu N) (by rw [nu_len]; exact h5)
    have HT := Lib.hid (And.intro t1 (And.intro t2 t3))
    clear h5 H t1 t2 t3
    go_enter Try.func15, Try.ntmps15
    go_wp2_with (first
      | (go_at_call 31; refine hmr.mono ?_; rintro e w1 ⟨c1, c2, rfl, hM, hc⟩; have HM := Lib.hid hM; have HC := Lib.hid hc; clear hM hc)
      | (go_at_call 33; refine (hfd _ _ _ HC.out HM.out).mono ?_; rintro e w2 ⟨rfl, hc2⟩; have HC2 := Lib.hid (HC.out.then hc2); clear hc2))
    go_ret2
    exact ⟨by rw [HT.out.1, HT.out.2.1]; rfl, by rw [HT.out.2.2]; exact Turns.stay HH.out HC2.out⟩
theorem take_nil {V : Value} {aff : List Int} (hV : Bs w V aff) (p : Int) :
    Calls Try.prog 15 #[.pointer none, .int .i64 p, V] w fun e w' => e = .returned (.tuple #[.int .i64 0, .bool false]) ∧ Chg [] w w' := by
  obtain ⟨A, ac, rfl, _⟩ := id hV
  have hmr := mayRun_any hV p [] (fun _ h => by cases h) (.inr (fun _ _ h => by cases h))
  obtain ⟨f, hf⟩ : ∃ f, f = mayP aff p := ⟨_, rfl⟩
  rw [← hf] at hmr
  clear hf
  obtain ⟨an, han⟩ : ∃ an, an = aff.length := ⟨_, rfl⟩
  rw [← han] at hmr ⊢
  have hfd := fun W c1 c2 (hM : MayF W [] c1 c2 f) => (find_may (rowed_nil W) c1 c2 f (fun W' hW' x => hM W' hW' x)).mono (R' := fun e w' => e = .returned (.pointer none) ∧ Chg [] W w') (fun e w' ⟨h1, h2⟩ => ⟨h1.is (.inr ⟨by simp, rfl⟩), h2⟩)
  clear hV han
  go_enter Try.func15, Try.ntmps15
  go_wp2_with (first
    | (go_at_call 31; refine hmr.mono ?_; rintro e w1 ⟨c1, c2, rfl, hM, hc⟩; have HM := Lib.hid hM; have HC := Lib.hid hc; clear hM hc)
    | (go_at_call 33; refine (hfd _ _ _ HM.out).mono ?_; rintro e w2 ⟨rfl, hc2⟩; have HC2 := Lib.hid (HC.out.then hc2); clear hc2))
  go_ret2
  exact ⟨rfl, HC2.out⟩
theorem remove_any (H : QAt w q N) (hN : N.length ≤ 100000) (g : Int) :
    Calls Try.prog 23 #[.pointer (some ⟨q, 0, none⟩), .int .i64 g] w fun e w' => e = .returned (.bool (decide (findAt g (nu N) < (nu N).length))) ∧ Turns q N ((nu N).eraseIdx (findAt g (nu N))) w w' := by
  have hmr := number_any g w
  have hlen := nu_len N
  obtain ⟨f, hf⟩ : ∃ f : Int → Bool, f = (fun x => x == g) := ⟨_, rfl⟩
  have hfa : fAt f (nu N) = findAt g (nu N) := by rw [hf]; exact fAt_num g _
  have HH := Lib.hid H
  obtain ⟨o, ho⟩ := finds_any f N
  have HO := Lib.hid ho
  have hfd := fun W c (hW : Chg [] w W) (hM : ∀ W', Chg [] W W' → ∀ x : Int, Calls Try.prog 42 #[.int .i64 x, c] W' fun e w' => e = .returned (.bool (x == g)) ∧ ∃ q, w' = W'.drewN q) => (find_num (H.quiet hW).rowed c f (fun W' hW' x => by rw [hf]; exact hM W' hW' x)).mono (R' := fun e w' => e = .returned (ptrV o) ∧ Chg [] W w') (fun e w' ⟨h1, h2⟩ => ⟨h1.is HO.out, h2⟩)
  unfold ptrV at hfd
  rcases ho with ⟨h5, b, x, h6, h7, rfl⟩ | ⟨h5, rfl⟩
  · have hlv := fun W (hW : Chg [] w W) => leave_any (H.quiet hW) (by omega) h6
    rw [hfa] at h5 hlv
    have HT := Lib.hid (show decide (findAt g (nu N) < (nu N).length) = true by simp; omega)
    clear h5 h6 h7 H hf hfa hlen
    go_enter Try.func23, Try.ntmps23
    go_wp2_with (first
      | (go_at_call 37; refine hmr.mono ?_; rintro e w1 ⟨c, rfl, hc, hM⟩; have HM := Lib.hid hM; have HC := Lib.hid hc; clear hM hc)
      | (go_at_call 33; refine (hfd _ _ HC.out HM.out).mono ?_; rintro e w2 ⟨rfl, hc2⟩; have HC2 := Lib.hid (HC.out.then hc2); clear hc2)
      | (go_at_call 34; refine (hlv _ HC2.out).mono ?_; rintro e w3 hL; have HTu := Lib.hid ((Turns.of_left (HH.out.quiet HC2.out) hL).before HC2.out); obtain ⟨rfl, _⟩ := hL))
    go_ret
    exact ⟨by rw [HT.out]; rfl, HTu.out⟩
  · rw [hfa] at h5
    have HT := Lib.hid (show decide (findAt g (nu N) < (nu N).length) = false by simp; omega)
    have HE := Lib.hid (show (nu N).eraseIdx (findAt g (nu N)) = nu N from List.eraseIdx_of_length_le (by omega))
    clear h5 H hf hfa hlen
    go_enter Try.func23, Try.ntmps23
    go_wp2_with (first
      | (go_at_call 37; refine hmr.mono ?_; rintro e w1 ⟨c, rfl, hc, hM⟩; have HM := Lib.hid hM; have HC := Lib.hid hc; clear hM hc)
      | (go_at_call 33; refine (hfd _ _ HC.out HM.out).mono ?_; rintro e w2 ⟨rfl, hc2⟩; have HC2 := Lib.hid (HC.out.then hc2); clear hc2))
    go_ret
    exact ⟨by rw [HT.out]; rfl, by rw [HE.out]; exact Turns.stay HH.out HC2.out⟩
theorem rowed_num {r : Value} {T : List Nat} (H : Rowed w r T N) (g : Int) (W : World) (c : Value) (hW : Chg [] w W) (hM : ∀ W', Chg [] W W' → ∀ x : Int, Calls Try.prog 42 #[.int .i64 x, c] W' fun e w' => e = .returned (.bool (x == g)) ∧ ∃ q, w' = W'.drewN q) :
    Calls Try.prog 33 #[r, .func (.func 42) #[] #[c]] W fun e w' => (∃ a, e = .returned (.pointer a) ∧ a.isSome = decide (findAt g (nu N) < (nu N).length)) ∧ Chg [] W w' := by
  have hlen := nu_len N
  have hfa : fAt (fun x => x == g) (nu N) = findAt g (nu N) := fAt_num g _
  refine (find_num (H.quiet hW) c (fun x => x == g) hM).mono ?_
  rintro e w' ⟨h1, h2⟩
  obtain ⟨o, ho⟩ := finds_any (fun x => x == g) N
  refine ⟨⟨_, h1.is ho, ?_⟩, h2⟩
  rcases ho with ⟨h5, b, x, h6, h7, rfl⟩ | ⟨h5, rfl⟩
  · rw [hfa] at h5; simp; omega
  · rw [hfa] at h5; simp; omega
theorem has_q {r : Value} {T : List Nat} (H : Rowed w r T N) (g : Int) :
    Calls Try.prog 24 #[r, .int .i64 g] w fun e w' => e = .returned (.bool (decide (findAt g (nu N) < (nu N).length))) ∧ Chg [] w w' := by
  have hmr := number_any g w
  have hfd := fun W c hW hM => rowed_num H g W c hW hM
  obtain ⟨B, hB⟩ : ∃ B, B = decide (findAt g (nu N) < (nu N).length) := ⟨_, rfl⟩
  simp only [← hB] at hfd
  rw [← hB]
  obtain ⟨pp, rfl⟩ := H.val
  clear hB H
  cases B with
  | true =>
    have hfd2 := fun W c hW hM => (hfd W c hW hM).mono (R' := fun e w' => (∃ a, e = .returned (.pointer (some a))) ∧ Chg [] W w') (fun e w' ⟨⟨a, h1, h2⟩, h3⟩ => ⟨by
      cases a with
      | none => simp at h2
      | some a => exact ⟨a, h1⟩, h3⟩)
    clear hfd
    go_enter Try.func24, Try.ntmps24
    go_wp2_with (first
      | (go_at_call 37; refine hmr.mono ?_; rintro e w1 ⟨c, rfl, hc, hM⟩; have HM := Lib.hid hM; have HC := Lib.hid hc; clear hM hc)
      | (go_at_call 33; refine (hfd2 _ _ HC.out HM.out).mono ?_; rintro e w2 ⟨⟨a, rfl⟩, hc2⟩; have HC2 := Lib.hid (HC.out.then hc2); clear hc2))
    go_ret
    exact ⟨rfl, HC2.out⟩
  | false =>
    have hfd2 := fun W c hW hM => (hfd W c hW hM).mono (R' := fun e w' => e = .returned (.pointer none) ∧ Chg [] W w') (fun e w' ⟨⟨a, h1, h2⟩, h3⟩ => ⟨by
      cases a with
      | none => exact h1
      | some a => simp at h2, h3⟩)
    clear hfd
    go_enter Try.func24, Try.ntmps24
    go_wp2_with (first
      | (go_at_call 37; refine hmr.mono ?_; rintro e w1 ⟨c, rfl, hc, hM⟩; have HM := Lib.hid hM; have HC := Lib.hid hc; clear hM hc)
      | (go_at_call 33; refine (hfd2 _ _ HC.out HM.out).mono ?_; rintro e w2 ⟨rfl, hc2⟩; have HC2 := Lib.hid (HC.out.then hc2); clear hc2))
    go_ret
    exact ⟨rfl, HC2.out⟩
end
end Go.Proofs
