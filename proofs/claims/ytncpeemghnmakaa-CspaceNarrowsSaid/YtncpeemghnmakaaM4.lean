import Derived.Test.YtncpeemghnmakaaM3
section
/-
  Plain facts about forests: no seat, no walk. A forest by functions over its places; preorder as the stack by which it is gone over; ancestors; depth.
-/
namespace Go.Proofs
set_option linter.unusedVariables false
set_option linter.unusedSimpArgs false

def upd {α : Type} (f : Nat → α) (a : Nat) (v : α) : Nat → α := fun k => if k = a then v else f k
theorem upd_same {α : Type} (f : Nat → α) (a : Nat) (v : α) : upd f a v a = v := by simp [upd]
theorem upd_other {α : Type} (f : Nat → α) {a k : Nat} (v : α) (h : k ≠ a) : upd f a v k = f k := by simp [upd, h]
/-- A forest: how many places; who is there; parents (none: a root, or not there); children; roots; free places, the one that comes next first. -/
structure Fo where
  size : Nat
  there : Nat → Bool
  par : Nat → Option Nat
  kids : Nat → List Nat
  roots : List Nat
  free : List Nat
def Fo.row (t : Fo) : Option Nat → List Nat
  | none => t.roots
  | some n => t.kids n
def Fo.setRow (t : Fo) (o : Option Nat) (l : List Nat) : Fo :=
  match o with
  | none => { t with roots := l }
  | some p => { t with kids := upd t.kids p l }
@[simp] theorem Fo.setRow_size (t : Fo) (o : Option Nat) (l : List Nat) : (t.setRow o l).size = t.size := by cases o <;> rfl
@[simp] theorem Fo.setRow_there (t : Fo) (o : Option Nat) (l : List Nat) : (t.setRow o l).there = t.there := by cases o <;> rfl
@[simp] theorem Fo.setRow_par (t : Fo) (o : Option Nat) (l : List Nat) : (t.setRow o l).par = t.par := by cases o <;> rfl
@[simp] theorem Fo.setRow_free (t : Fo) (o : Option Nat) (l : List Nat) : (t.setRow o l).free = t.free := by cases o <;> rfl
theorem Fo.row_setRow (t : Fo) (o o' : Option Nat) (l : List Nat) : (t.setRow o l).row o' = if o' = o then l else t.row o' := by
  cases o with
  | none =>
    cases o' with
    | none => simp [Fo.setRow, Fo.row]
    | some q => simp [Fo.setRow, Fo.row]
  | some p =>
    cases o' with
    | none => simp [Fo.setRow, Fo.row]
    | some q => simp only [Fo.setRow, Fo.row, upd, Option.some.injEq]
theorem Fo.kids_setRow (t : Fo) (o : Option Nat) (n : Nat) (l : List Nat) : (t.setRow o l).kids n = if some n = o then l else t.kids n := Fo.row_setRow t o (some n) l
structure Fo.WF (t : Fo) : Prop where
  lt : ∀ n, t.there n = true → n < t.size
  mem : ∀ n, t.there n = true → n ∈ t.row (t.par n)
  par : ∀ o n, n ∈ t.row o → t.there n = true ∧ t.par n = o
  nodup : ∀ o, (t.row o).Nodup
  off : ∀ n, t.there n = false → t.kids n = [] ∧ t.par n = none
  depth : ∃ d : Nat → Nat, ∀ n p, t.there n = true → t.par n = some p → d p < d n
  frees : t.free.Nodup ∧ ∀ n, n ∈ t.free ↔ n < t.size ∧ t.there n = false
theorem Fo.WF.up {t : Fo} (h : t.WF) {n p : Nat} (hn : t.there n = true) (hp : t.par n = some p) : t.there p = true := by
  have := h.mem n hn
  rw [hp] at this
  cases hc : t.there p with
  | true => rfl
  | false => rw [Fo.row, (h.off p hc).1] at this; cases this
theorem Fo.WF.kid {t : Fo} (h : t.WF) {n p : Nat} (hk : n ∈ t.kids p) : t.there n = true ∧ t.par n = some p ∧ t.there p = true := by
  obtain ⟨h1, h2⟩ := h.par (some p) n hk
  exact ⟨h1, h2, h.up h1 h2⟩

/-! ### Ancestors -/
/-- a is above n. -/
inductive Anc (t : Fo) : Nat → Nat → Prop where
  | kid {a n : Nat} : n ∈ t.kids a → Anc t a n
  | step {a p n : Nat} : n ∈ t.kids p → Anc t a p → Anc t a n
theorem Anc.trans {t : Fo} {a b c : Nat} (h1 : Anc t a b) (h2 : Anc t b c) : Anc t a c := by
  induction h2 with
  | kid hk => exact .step hk h1
  | step hk _ ih => exact .step hk ih
theorem Anc.depth {t : Fo} (h : t.WF) {d : Nat → Nat} (hd : ∀ n p, t.there n = true → t.par n = some p → d p < d n) {a n : Nat} (ha : Anc t a n) : d a < d n := by
  induction ha with
  | kid hk => obtain ⟨h1, h2, _⟩ := h.kid hk; exact hd _ _ h1 h2
  | step hk _ ih => obtain ⟨h1, h2, _⟩ := h.kid hk; exact Nat.lt_trans ih (hd _ _ h1 h2)
theorem Anc.irrefl {t : Fo} (h : t.WF) {a : Nat} (ha : Anc t a a) : False := by
  obtain ⟨d, hd⟩ := h.depth
  exact Nat.lt_irrefl _ (ha.depth h hd)
theorem Anc.there {t : Fo} (h : t.WF) {a n : Nat} (ha : Anc t a n) : t.there a = true ∧ t.there n = true := by
  induction ha with
  | kid hk => obtain ⟨h1, _, h3⟩ := h.kid hk; exact ⟨h3, h1⟩
  | step hk _ ih => exact ⟨ih.1, (h.kid hk).1⟩
/-- Who is above n is n's parent, or above that. -/
theorem Anc.last {t : Fo} (h : t.WF) {a n p : Nat} (ha : Anc t a n) (hp : t.par n = some p) : a = p ∨ Anc t a p := by
  cases ha with
  | kid hk => left; have := (h.kid hk).2.1; rw [hp] at this; exact (Option.some.inj this).symm
  | step hk h2 => right; have := (h.kid hk).2.1; rw [hp] at this; cases this; exact h2
theorem Anc.root {t : Fo} (h : t.WF) {a n : Nat} (ha : Anc t a n) (hp : t.par n = none) : False := by
  cases ha with
  | kid hk => rw [(h.kid hk).2.1] at hp; cases hp
  | step hk _ => rw [(h.kid hk).2.1] at hp; cases hp
/-- Two that are above one are above one another, or one. -/
theorem Anc.chain {t : Fo} (h : t.WF) {a b n : Nat} (ha : Anc t a n) (hb : Anc t b n) : a = b ∨ Anc t a b ∨ Anc t b a := by
  induction ha with
  | kid hk =>
    rcases hb.last h (h.kid hk).2.1 with e | e
    · exact .inl e.symm
    · exact .inr (.inr e)
  | step hk h2 ih =>
    rcases hb.last h (h.kid hk).2.1 with e | e
    · subst e; exact .inr (.inl h2)
    · exact ih e

/-! ### Preorder, as a stack is gone over -/
inductive Pre (t : Fo) : List Nat → List Nat → Prop where
  | nil : Pre t [] []
  | cons {x : Nat} {r out : List Nat} : Pre t (t.kids x ++ r) out → Pre t (x :: r) (x :: out)
theorem Pre.det {t : Fo} {R a b : List Nat} (h1 : Pre t R a) (h2 : Pre t R b) : a = b := by
  induction h1 generalizing b with
  | nil => cases h2; rfl
  | cons _ ih => cases h2 with | cons h => rw [ih h]
theorem Pre.append {t : Fo} {R a : List Nat} (h1 : Pre t R a) {S b : List Nat} (h2 : Pre t S b) : Pre t (R ++ S) (a ++ b) := by
  induction h1 with
  | nil => exact h2
  | @cons x r out _ ih => exact .cons (by show Pre t (t.kids x ++ (r ++ S)) (out ++ b); rw [← List.append_assoc]; exact ih)
theorem Fo.WF.height {t : Fo} (h : t.WF) : ∃ g : Nat → Nat, ∀ n k, k ∈ t.kids n → g k < g n := by
  obtain ⟨d, hd⟩ := h.depth
  have hb : ∀ m, ∃ D, ∀ n, n < m → d n ≤ D := by
    intro m
    induction m with
    | zero => exact ⟨0, fun n hn => absurd hn (by omega)⟩
    | succ m ih =>
      obtain ⟨D, hD⟩ := ih
      refine ⟨max D (d m), fun n hn => ?_⟩
      by_cases e : n = m
      · subst e; exact Nat.le_max_right _ _
      · exact Nat.le_trans (hD n (by omega)) (Nat.le_max_left _ _)
  obtain ⟨D, hD⟩ := hb t.size
  refine ⟨fun n => D - d n, fun n k hk => ?_⟩
  obtain ⟨h1, h2, h3⟩ := h.kid hk
  have := hD k (h.lt k h1)
  have := hd k n h1 h2
  show D - d k < D - d n
  omega
theorem Pre.exists {t : Fo} (h : t.WF) (R : List Nat) : ∃ out, Pre t R out := by
  obtain ⟨g, hg⟩ := h.height
  have one : ∀ H x, g x < H → ∀ r, (∃ out, Pre t r out) → ∃ out, Pre t (x :: r) out := by
    intro H
    induction H with
    | zero => intro x hx; omega
    | succ H ih =>
      intro x hx r hr
      have all : ∀ ks : List Nat, (∀ k ∈ ks, g k < H) → ∃ out, Pre t (ks ++ r) out := by
        intro ks
        induction ks with
        | nil => intro _; exact hr
        | cons k ks ih2 =>
          intro hk
          exact ih k (hk k (by simp)) _ (ih2 fun q hq => hk q (by simp [hq]))
      obtain ⟨out, ho⟩ := all (t.kids x) (fun k hk => by have := hg x k hk; omega)
      exact ⟨_, .cons ho⟩
  induction R with
  | nil => exact ⟨[], .nil⟩
  | cons x r ih => exact one (g x + 1) x (by omega) r ih
theorem Pre.split {t : Fo} (h : t.WF) {R S c : List Nat} (hc : Pre t (R ++ S) c) : ∃ a b, Pre t R a ∧ Pre t S b ∧ c = a ++ b := by
  obtain ⟨a, ha⟩ := Pre.exists h R
  obtain ⟨b, hb⟩ := Pre.exists h S
  exact ⟨a, b, ha, hb, hc.det (ha.append hb)⟩
/-- Who is met. -/
theorem Pre.mem {t : Fo} {R out : List Nat} (h : Pre t R out) (y : Nat) : y ∈ out ↔ y ∈ R ∨ ∃ x ∈ R, Anc t x y := by
  induction h with
  | nil => simp
  | @cons x r out _ ih =>
    rw [List.mem_cons, ih]
    constructor
    · rintro (rfl | h | ⟨z, hz, ha⟩)
      · exact .inl (by simp)
      · rcases List.mem_append.1 h with h | h
        · exact .inr ⟨x, by simp, .kid h⟩
        · exact .inl (by simp [h])
      · rcases List.mem_append.1 hz with hz | hz
        · exact .inr ⟨x, by simp, (Anc.kid hz).trans ha⟩
        · exact .inr ⟨z, by simp [hz], ha⟩
    · rintro (h | ⟨z, hz, ha⟩)
      · rcases List.mem_cons.1 h with rfl | h
        · exact .inl rfl
        · exact .inr (.inl (by simp [h]))
      · rcases List.mem_cons.1 hz with rfl | hz
        · right
          clear ih
          induction ha with
          | kid hk => exact .inl (by simp [hk])
          | step hk h2 ih2 =>
            rcases ih2 with h | ⟨q, hq, h3⟩
            · exact .inr ⟨_, h, .kid hk⟩
            · exact .inr ⟨q, hq, .step hk h3⟩
        · exact .inr (.inr ⟨z, by simp [hz], ha⟩)
/-- Nobody is met twice. -/
theorem Pre.nodup {t : Fo} (hw : t.WF) {R out : List Nat} (h : Pre t R out) (hR : R.Nodup) (hA : ∀ x ∈ R, ∀ y ∈ R, ¬ Anc t x y) : out.Nodup := by
  induction h with
  | nil => exact List.nodup_nil
  | @cons x r out hp ih =>
    obtain ⟨hx, hr⟩ := List.nodup_cons.1 hR
    have hkr : ∀ k ∈ t.kids x, k ∉ r := fun k hk hkr => hA x (by simp) k (by simp [hkr]) (.kid hk)
    have hq : ∀ a ∈ t.kids x ++ r, ∀ b ∈ t.kids x ++ r, ¬ Anc t a b := by
      intro a ha b hb hab
      rcases List.mem_append.1 ha with a1 | a1 <;> rcases List.mem_append.1 hb with b1 | b1
      · rcases hab.last hw (hw.kid b1).2.1 with e | e
        · rw [e] at a1; exact (Anc.kid a1).irrefl hw
        · exact ((Anc.kid a1).trans e).irrefl hw
      · exact hA x (by simp) b (by simp [b1]) ((Anc.kid a1).trans hab)
      · rcases hab.last hw (hw.kid b1).2.1 with e | e
        · rw [e] at a1; exact hx a1
        · exact hA a (by simp [a1]) x (by simp) e
      · exact hA a (by simp [a1]) b (by simp [b1]) hab
    have hn : (t.kids x ++ r).Nodup := List.nodup_append.2 ⟨hw.nodup (some x), hr, fun a ha b hb e => by subst e; exact hkr a ha hb⟩
    refine List.nodup_cons.2 ⟨fun hm => ?_, ih hn hq⟩
    rcases (hp.mem x).1 hm with h | ⟨y, hy, ha⟩
    · rcases List.mem_append.1 h with h | h
      · exact (Anc.kid h).irrefl hw
      · exact hx h
    · rcases List.mem_append.1 hy with hy | hy
      · exact ((Anc.kid hy).trans ha).irrefl hw
      · exact hA y (by simp [hy]) x (by simp) ha
end Go.Proofs
end
section
namespace Go.Proofs
set_option linter.unusedVariables false
set_option linter.unusedSimpArgs false

/-! ### A forest without nodes; a node more -/
def Fo.new (n : Nat) : Fo := ⟨n, fun _ => false, fun _ => none, fun _ => [], [], List.range n⟩
theorem Fo.new_wf (n : Nat) : (Fo.new n).WF where
  lt k h := by cases h
  mem k h := by cases h
  par o k h := by cases o <;> simp [Fo.new, Fo.row] at h
  nodup o := by cases o <;> simp [Fo.new, Fo.row]
  off k _ := ⟨rfl, rfl⟩
  depth := ⟨fun _ => 0, fun k p h _ => by cases h⟩
  frees := ⟨List.nodup_range, fun k => by simp [Fo.new]⟩
def Fo.addAt (t : Fo) (o : Option Nat) (a : Nat) (r : List Nat) : Fo :=
  ({ t with there := upd t.there a true, par := upd t.par a o, free := r } : Fo).setRow o (a :: t.row o)
theorem Fo.addAt_row (t : Fo) (o o' : Option Nat) (a : Nat) (r : List Nat) : (t.addAt o a r).row o' = if o' = o then a :: t.row o else t.row o' := by
  unfold Fo.addAt
  rw [Fo.row_setRow]
  rfl
theorem Fo.addAt_there (t : Fo) (o : Option Nat) (a : Nat) (r : List Nat) : (t.addAt o a r).there = upd t.there a true := by unfold Fo.addAt; simp
theorem Fo.addAt_par (t : Fo) (o : Option Nat) (a : Nat) (r : List Nat) : (t.addAt o a r).par = upd t.par a o := by unfold Fo.addAt; simp
theorem Fo.addAt_free (t : Fo) (o : Option Nat) (a : Nat) (r : List Nat) : (t.addAt o a r).free = r := by unfold Fo.addAt; simp
theorem Fo.addAt_size (t : Fo) (o : Option Nat) (a : Nat) (r : List Nat) : (t.addAt o a r).size = t.size := by unfold Fo.addAt; simp
theorem Fo.WF.add {t : Fo} (h : t.WF) {a : Nat} {r : List Nat} (hf : t.free = a :: r) {o : Option Nat} (ho : ∀ p, o = some p → t.there p = true) : (t.addAt o a r).WF := by
  have hfr := h.frees
  rw [hf] at hfr
  obtain ⟨hn, hm⟩ := hfr
  obtain ⟨har, hrn⟩ := List.nodup_cons.1 hn
  obtain ⟨hlt, hna⟩ := (hm a).1 (by simp)
  have nin : ∀ o', a ∉ t.row o' := fun o' hc => by have := (h.par o' a hc).1; rw [hna] at this; cases this
  have th : ∀ k, t.there k = true → k ≠ a := fun k hk e => by rw [e, hna] at hk; cases hk
  refine ⟨?_, ?_, ?_, ?_, ?_, ?_, ?_⟩
  · intro n hn'
    rw [Fo.addAt_size]
    rw [Fo.addAt_there] at hn'
    by_cases e : n = a
    · rw [e]; exact hlt
    · rw [upd_other _ _ e] at hn'; exact h.lt n hn'
  · intro n hn'
    rw [Fo.addAt_there] at hn'
    rw [Fo.addAt_par, Fo.addAt_row]
    by_cases e : n = a
    · subst e; rw [upd_same, if_pos rfl]; simp
    · rw [upd_other _ _ e] at hn' ⊢
      split
      · rename_i hc; exact List.mem_cons_of_mem _ (hc ▸ h.mem n hn')
      · exact h.mem n hn'
  · intro o' n hn'
    rw [Fo.addAt_row] at hn'
    rw [Fo.addAt_there, Fo.addAt_par]
    split at hn'
    · rename_i hc
      subst hc
      rcases List.mem_cons.1 hn' with rfl | hn'
      · exact ⟨upd_same .., upd_same ..⟩
      · obtain ⟨q1, q2⟩ := h.par _ n hn'
        rw [upd_other _ _ (th n q1), upd_other _ _ (th n q1)]
        exact ⟨q1, q2⟩
    · obtain ⟨q1, q2⟩ := h.par _ n hn'
      rw [upd_other _ _ (th n q1), upd_other _ _ (th n q1)]
      exact ⟨q1, q2⟩
  · intro o'
    rw [Fo.addAt_row]
    split
    · exact List.nodup_cons.2 ⟨nin o, h.nodup o⟩
    · exact h.nodup o'
  · intro n hn'
    rw [Fo.addAt_there] at hn'
    have e : n ≠ a := fun e => by subst e; rw [upd_same] at hn'; cases hn'
    rw [upd_other _ _ e] at hn'
    rw [Fo.addAt_par, upd_other _ _ e]
    refine ⟨?_, (h.off n hn').2⟩
    have := Fo.addAt_row t o (some n) a r
    rw [if_neg (fun hc => by have := ho n hc.symm; rw [hn'] at this; cases this)] at this
    exact this.trans (h.off n hn').1
  · obtain ⟨d, hd⟩ := h.depth
    refine ⟨upd d a (match o with | some p => d p + 1 | none => 0), fun n p hn' hp => ?_⟩
    rw [Fo.addAt_there] at hn'
    rw [Fo.addAt_par] at hp
    by_cases e : n = a
    · subst e
      rw [upd_same] at hp
      subst hp
      rw [upd_other _ _ (th p (ho p rfl)), upd_same]
      exact Nat.lt_succ_self _
    · rw [upd_other _ _ e] at hn' hp ⊢
      rw [upd_other _ _ (th p (h.up hn' hp))]
      exact hd n p hn' hp
  · rw [Fo.addAt_free, Fo.addAt_there, Fo.addAt_size]
    refine ⟨hrn, fun n => ?_⟩
    have hm' := hm n
    by_cases e : n = a
    · subst e
      rw [upd_same]
      simp [har]
    · rw [upd_other _ _ e, ← hm']
      simp [e]

/-! ### A node that is dropped -/
theorem flat_mem {n : Nat} {ks : List Nat} : ∀ (l : List Nat) (k : Nat), k ∈ l.flatMap (fun i => if i = n then ks else [i]) ↔ (k ∈ l ∧ k ≠ n) ∨ (n ∈ l ∧ k ∈ ks)
  | [], k => by simp
  | x :: l, k => by
    rw [List.flatMap_cons, List.mem_append, flat_mem l k]
    by_cases e : x = n
    · subst e
      simp only [if_true, List.mem_cons, true_or, true_and]
      constructor
      · rintro (h | h | ⟨_, h⟩)
        · exact .inr h
        · exact .inl ⟨.inr h.1, h.2⟩
        · exact .inr h
      · rintro (⟨h | h, h2⟩ | h)
        · exact absurd h h2
        · exact .inr (.inl ⟨h, h2⟩)
        · exact .inl h
    · rw [if_neg e]
      rw [List.mem_singleton]
      simp only [List.mem_cons]
      constructor
      · rintro (rfl | h | ⟨h, h2⟩)
        · exact .inl ⟨.inl rfl, e⟩
        · exact .inl ⟨.inr h.1, h.2⟩
        · exact .inr ⟨.inr h, h2⟩
      · rintro (⟨h | h, h2⟩ | ⟨h | h, h2⟩)
        · exact .inl h
        · exact .inr (.inl ⟨h, h2⟩)
        · exact absurd h.symm e
        · exact .inr (.inr ⟨h, h2⟩)
theorem flat_nodup {n : Nat} {ks : List Nat} (hk : ks.Nodup) : ∀ (l : List Nat), l.Nodup → (∀ k ∈ ks, k ∉ l) → (l.flatMap (fun i => if i = n then ks else [i])).Nodup
  | [], _, _ => List.nodup_nil
  | x :: l, hl, hd => by
    obtain ⟨hx, hl2⟩ := List.nodup_cons.1 hl
    have ih := flat_nodup (n := n) hk l hl2 (fun k hk' hc => hd k hk' (by simp [hc]))
    rw [List.flatMap_cons]
    refine List.nodup_append.2 ⟨?_, ih, fun a ha b hb e => ?_⟩
    · split
      · exact hk
      · simp
    · subst e
      rcases (flat_mem l a).1 hb with ⟨h1, h2⟩ | ⟨h1, h2⟩
      · split at ha
        · exact hd a ha (by simp [h1])
        · rw [List.mem_singleton] at ha; subst ha; exact hx h1
      · split at ha
        · rename_i hc; subst hc; exact hx h1
        · rw [List.mem_singleton] at ha; subst ha; exact hd a h2 (by simp)
def Fo.drop (t : Fo) (n : Nat) : Fo :=
  ({ t with there := upd t.there n false, par := fun k => if k = n then none else if k ∈ t.kids n then t.par n else t.par k, kids := upd t.kids n [], free := n :: t.free } : Fo).setRow (t.par n)
    ((t.row (t.par n)).flatMap fun i => if i = n then t.kids n else [i])
theorem Fo.drop_there (t : Fo) (n : Nat) : (t.drop n).there = upd t.there n false := by unfold Fo.drop; simp
theorem Fo.drop_par (t : Fo) (n k : Nat) : (t.drop n).par k = if k = n then none else if k ∈ t.kids n then t.par n else t.par k := by unfold Fo.drop; simp
theorem Fo.drop_free (t : Fo) (n : Nat) : (t.drop n).free = n :: t.free := by unfold Fo.drop; simp
theorem Fo.drop_size (t : Fo) (n : Nat) : (t.drop n).size = t.size := by unfold Fo.drop; simp
theorem Fo.drop_row (t : Fo) (n : Nat) (o : Option Nat) : (t.drop n).row o = if o = t.par n then (t.row (t.par n)).flatMap (fun i => if i = n then t.kids n else [i]) else if o = some n then [] else t.row o := by
  unfold Fo.drop
  rw [Fo.row_setRow]
  split
  · rfl
  · cases o with
    | none => rw [if_neg (by simp)]; rfl
    | some q =>
      show upd t.kids n [] q = _
      by_cases e : q = n
      · subst e; rw [upd_same, if_pos rfl]
      · rw [upd_other _ _ e, if_neg (by simpa using e)]; rfl
theorem Fo.WF.self_par {t : Fo} (h : t.WF) {n : Nat} (hn : t.there n = true) : t.par n ≠ some n := fun e => by
  have := h.mem n hn
  rw [e] at this
  exact (Anc.kid this).irrefl h
theorem Fo.WF.drop {t : Fo} (h : t.WF) {n : Nat} (hn : t.there n = true) : (t.drop n).WF := by
  have hs := h.self_par hn
  have hnr := h.mem n hn
  have th : ∀ k, (t.drop n).there k = true ↔ k ≠ n ∧ t.there k = true := fun k => by
    rw [Fo.drop_there]
    by_cases e : k = n
    · subst e; rw [upd_same]; simp
    · rw [upd_other _ _ e]; simp [e]
  have hkn : ∀ k, k ∈ t.kids n → k ≠ n ∧ t.there k = true ∧ t.par k = some n := fun k hk => ⟨fun e => by subst e; exact (Anc.kid hk).irrefl h, (h.kid hk).1, (h.kid hk).2.1⟩
  refine ⟨?_, ?_, ?_, ?_, ?_, ?_, ?_⟩
  · intro k hk
    rw [Fo.drop_size]
    exact h.lt k ((th k).1 hk).2
  · intro k hk
    obtain ⟨h1, h2⟩ := (th k).1 hk
    rw [Fo.drop_par, if_neg h1, Fo.drop_row]
    by_cases hc : k ∈ t.kids n
    · rw [if_pos hc, if_pos rfl, flat_mem]
      exact .inr ⟨hnr, hc⟩
    · rw [if_neg hc]
      by_cases ho : t.par k = t.par n
      · rw [if_pos ho, flat_mem, ← ho]
        exact .inl ⟨h.mem k h2, h1⟩
      · rw [if_neg ho, if_neg (fun e => hc (by have := h.mem k h2; rw [e] at this; exact this))]
        exact h.mem k h2
  · intro o k hk
    rw [Fo.drop_row] at hk
    rw [th, Fo.drop_par]
    split at hk
    · rename_i ho
      subst ho
      rcases (flat_mem _ k).1 hk with ⟨h1, h2⟩ | ⟨_, h1⟩
      · obtain ⟨q1, q2⟩ := h.par _ k h1
        rw [if_neg h2, if_neg (fun hc => by have := (hkn k hc).2.2; rw [q2] at this; exact hs this)]
        exact ⟨⟨h2, q1⟩, q2⟩
      · obtain ⟨q1, q2, q3⟩ := hkn k h1
        rw [if_neg q1, if_pos h1]
        exact ⟨⟨q1, q2⟩, rfl⟩
    · rename_i ho
      split at hk
      · cases hk
      · rename_i ho2
        obtain ⟨q1, q2⟩ := h.par _ k hk
        have hne : k ≠ n := fun e => by subst e; exact ho q2.symm
        rw [if_neg hne, if_neg (fun hc => ho2 (by rw [← q2]; exact (hkn k hc).2.2))]
        exact ⟨⟨hne, q1⟩, q2⟩
  · intro o
    rw [Fo.drop_row]
    split
    · refine flat_nodup (h.nodup (some n)) _ (h.nodup _) (fun k hk hc => ?_)
      have := (h.par _ k hc).2
      rw [(hkn k hk).2.2] at this
      exact hs this.symm
    · split
      · exact List.nodup_nil
      · exact h.nodup o
  · intro k hk
    have hk' : k = n ∨ t.there k = false := by
      by_cases e : k = n
      · exact .inl e
      · right; rw [Fo.drop_there, upd_other _ _ e] at hk; exact hk
    have hr := Fo.drop_row t n (some k)
    rw [Fo.drop_par]
    rcases hk' with rfl | hk'
    · rw [if_neg (fun e => hs e.symm), if_pos rfl] at hr
      exact ⟨hr, by rw [if_pos rfl]⟩
    · have hne : k ≠ n := fun e => by subst e; rw [hn] at hk'; cases hk'
      rw [if_neg (fun e => by have := h.up hn e.symm; rw [hk'] at this; cases this), if_neg (by simpa using hne)] at hr
      rw [if_neg hne, if_neg (fun hc => by have := (hkn k hc).2.1; rw [hk'] at this; cases this)]
      exact ⟨hr.trans (h.off k hk').1, (h.off k hk').2⟩
  · obtain ⟨d, hd⟩ := h.depth
    refine ⟨d, fun k p hk hp => ?_⟩
    obtain ⟨h1, h2⟩ := (th k).1 hk
    rw [Fo.drop_par, if_neg h1] at hp
    split at hp
    · rename_i hc
      exact Nat.lt_trans (hd n p hn hp) (hd k n h2 (hkn k hc).2.2)
    · exact hd k p h2 hp
  · rw [Fo.drop_free, Fo.drop_size]
    obtain ⟨f1, f2⟩ := h.frees
    refine ⟨List.nodup_cons.2 ⟨fun hc => (by have := ((f2 n).1 hc).2; rw [hn] at this; cases this), f1⟩, fun k => ?_⟩
    rw [Fo.drop_there, List.mem_cons, f2]
    by_cases e : k = n
    · subst e; rw [upd_same]; simp [h.lt k hn]
    · rw [upd_other _ _ e]; simp [e]
/-- Who was above whom of all others is so still. -/
theorem Anc.drop {t : Fo} (h : t.WF) {n : Nat} (hn : t.there n = true) {a k : Nat} (ha : a ≠ n) (hk : k ≠ n) : Anc (t.drop n) a k ↔ Anc t a k := by
  have hs := h.self_par hn
  have hnr := h.mem n hn
  have kd : ∀ p, (t.drop n).kids p = if some p = t.par n then (t.row (t.par n)).flatMap (fun i => if i = n then t.kids n else [i]) else if some p = some n then [] else t.kids p := fun p => Fo.drop_row t n (some p)
  have edge : ∀ p c, c ∈ (t.drop n).kids p → Anc t p c := by
    intro p c hc
    rw [kd] at hc
    split at hc
    · rename_i ho
      rcases (flat_mem _ c).1 hc with ⟨h1, _⟩ | ⟨h1, h2⟩
      · rw [← ho] at h1; exact .kid h1
      · rw [← ho] at h1; exact .step h2 (.kid h1)
    · split at hc
      · cases hc
      · exact .kid hc
  constructor
  · intro hA
    clear ha hk
    induction hA with
    | kid hc => exact edge _ _ hc
    | step hc _ ih => exact ih.trans (edge _ _ hc)
  · intro hA
    have old : ∀ p c, c ∈ t.kids p → p ≠ n → c ≠ n → c ∈ (t.drop n).kids p := by
      intro p c hc hp hcn
      rw [kd]
      split
      · rename_i ho
        rw [flat_mem]
        exact .inl ⟨by rw [← ho]; exact hc, hcn⟩
      · rw [if_neg (by simpa using hp)]
        exact hc
    have gen : (k ≠ n → Anc (t.drop n) a k) ∧ (k = n → ∃ p, t.par n = some p ∧ (a = p ∨ Anc (t.drop n) a p)) := by
      clear hk
      induction hA with
      | @kid c hc =>
        refine ⟨fun hcn => .kid (old a c hc ha hcn), fun e => ?_⟩
        subst e
        exact ⟨a, (h.kid hc).2.1, .inl rfl⟩
      | @step p c hc _ ih =>
        obtain ⟨i1, i2⟩ := ih
        refine ⟨fun hcn => ?_, fun e => ?_⟩
        · by_cases hp : p = n
          · -- the node itself stands between
            obtain ⟨q, hq, hor⟩ := i2 hp
            subst hp
            have hcq : c ∈ (t.drop p).kids q := by
              rw [kd, if_pos hq.symm, flat_mem]
              exact .inr ⟨hnr, hc⟩
            rcases hor with rfl | hor
            · exact .kid hcq
            · exact .step hcq hor
          · exact .step (old p c hc hp hcn) (i1 hp)
        · subst e
          have hp : p ≠ c := fun e => by subst e; exact (Anc.kid hc).irrefl h
          exact ⟨p, (h.kid hc).2.1, .inr (i1 hp)⟩
    exact gen.1 hk
end Go.Proofs
end
section
namespace Go.Proofs
set_option linter.unusedVariables false
set_option linter.unusedSimpArgs false

/-! ### A node that is pruned -/
theorem Pre.desc {t : Fo} {n : Nat} {l : List Nat} (h : Pre t (t.kids n) l) (k : Nat) : k ∈ l ↔ Anc t n k := by
  rw [h.mem]
  constructor
  · rintro (h | ⟨x, hx, ha⟩)
    · exact .kid h
    · exact (Anc.kid hx).trans ha
  · intro ha
    induction ha with
    | kid hk => exact .inl hk
    | step hk _ ih =>
      rcases ih with h | ⟨x, hx, h2⟩
      · exact .inr ⟨_, h, .kid hk⟩
      · exact .inr ⟨x, hx, .step hk h2⟩
theorem Pre.desc_nodup {t : Fo} (hw : t.WF) {n : Nat} {l : List Nat} (h : Pre t (t.kids n) l) : l.Nodup :=
  h.nodup hw (hw.nodup (some n)) fun x hx y hy ha => by
    rcases ha.last hw (hw.kid hy).2.1 with e | e
    · rw [e] at hx; exact (Anc.kid hx).irrefl hw
    · exact ((Anc.kid hx).trans e).irrefl hw
def Fo.prune (t : Fo) (n : Nat) (l : List Nat) : Fo :=
  { t with there := fun k => t.there k && !decide (k ∈ l), par := fun k => if k ∈ l then none else t.par k, kids := fun k => if k = n ∨ k ∈ l then [] else t.kids k, free := l.reverse ++ t.free }
theorem Fo.WF.prune {t : Fo} (h : t.WF) {n : Nat} {l : List Nat} (hl : Pre t (t.kids n) l) : (t.prune n l).WF := by
  have hd := fun k => hl.desc k
  have th : ∀ k, (t.prune n l).there k = true ↔ t.there k = true ∧ ¬ Anc t n k := fun k => by
    show (t.there k && !decide (k ∈ l)) = true ↔ _
    rw [Bool.and_eq_true, Bool.not_eq_true', decide_eq_false_iff_not, hd]
  refine ⟨?_, ?_, ?_, ?_, ?_, ?_, ?_⟩
  · intro k hk
    exact h.lt k ((th k).1 hk).1
  · intro k hk
    obtain ⟨h1, h2⟩ := (th k).1 hk
    have hp : (t.prune n l).par k = t.par k := if_neg (fun hc => h2 ((hd k).1 hc))
    rw [hp]
    have hm := h.mem k h1
    cases hpk : t.par k with
    | none => rw [hpk] at hm; exact hm
    | some p =>
      rw [hpk] at hm
      show k ∈ (if p = n ∨ p ∈ l then [] else t.kids p)
      rw [if_neg]
      · exact hm
      · rintro (rfl | hc)
        · exact h2 (.kid hm)
        · exact h2 (.step hm ((hd p).1 hc))
  · intro o k hk
    cases o with
    | none =>
      obtain ⟨q1, q2⟩ := h.par none k hk
      have hno : ¬ Anc t n k := fun ha => ha.root h q2
      exact ⟨(th k).2 ⟨q1, hno⟩, (if_neg (fun hc => hno ((hd k).1 hc))).trans q2⟩
    | some p =>
      have hk' : k ∈ (if p = n ∨ p ∈ l then [] else t.kids p) := hk
      split at hk'
      · cases hk'
      · rename_i hpn
        obtain ⟨q1, q2, _⟩ := h.kid hk'
        have hno : ¬ Anc t n k := fun ha => by
          rcases ha.last h q2 with e | e
          · exact hpn (.inl e.symm)
          · exact hpn (.inr ((hd p).2 e))
        exact ⟨(th k).2 ⟨q1, hno⟩, (if_neg (fun hc => hno ((hd k).1 hc))).trans q2⟩
  · intro o
    cases o with
    | none => exact h.nodup none
    | some p =>
      show (if p = n ∨ p ∈ l then [] else t.kids p).Nodup
      split
      · exact List.nodup_nil
      · exact h.nodup (some p)
  · intro k hk
    show (if k = n ∨ k ∈ l then [] else t.kids k) = [] ∧ (if k ∈ l then none else t.par k) = none
    by_cases hc : k ∈ l
    · simp [hc]
    · have hk' : t.there k = false := by
        cases hh : t.there k with
        | false => rfl
        | true => rw [(th k).2 ⟨hh, fun ha => hc ((hd k).2 ha)⟩] at hk; cases hk
      obtain ⟨q1, q2⟩ := h.off k hk'
      rw [q1, q2]
      simp
  · obtain ⟨d, hdd⟩ := h.depth
    refine ⟨d, fun k p hk hp => ?_⟩
    obtain ⟨h1, h2⟩ := (th k).1 hk
    have hp' : (t.prune n l).par k = t.par k := if_neg (fun hc => h2 ((hd k).1 hc))
    rw [hp'] at hp
    exact hdd k p h1 hp
  · obtain ⟨f1, f2⟩ := h.frees
    have ht : ∀ k ∈ l, t.there k = true := fun k hk => (((hd k).1 hk).there h).2
    refine ⟨List.nodup_append.2 ⟨(List.reverse_perm l).nodup_iff.2 (hl.desc_nodup h), f1, fun a ha b hb e => ?_⟩, fun k => ?_⟩
    · subst e
      have := ((f2 a).1 hb).2
      rw [ht a (List.mem_reverse.1 ha)] at this
      cases this
    · show k ∈ l.reverse ++ t.free ↔ k < t.size ∧ (t.there k && !decide (k ∈ l)) = false
      rw [List.mem_append, List.mem_reverse, f2]
      by_cases hc : k ∈ l
      · simp [hc, h.lt k (ht k hc)]
      · simp [hc]

/-! ### How many there are -/
def Fo.len (t : Fo) : Nat := (List.range t.size).countP t.there
theorem Fo.WF.len {t : Fo} (h : t.WF) : t.len + t.free.length = t.size := by
  obtain ⟨f1, f2⟩ := h.frees
  have hp : t.free.Perm ((List.range t.size).filter (fun k => !t.there k)) := by
    rw [List.perm_ext_iff_of_nodup f1 (List.nodup_range.filter _)]
    intro k
    rw [f2, List.mem_filter, List.mem_range]
    simp
  have := hp.length_eq
  rw [this, ← List.countP_eq_length_filter]
  unfold Fo.len
  have e := List.length_eq_countP_add_countP (l := List.range t.size) t.there
  rw [List.length_range] at e
  have e2 : (List.range t.size).countP (fun k => !t.there k) = (List.range t.size).countP (fun a => decide ¬t.there a = true) := by
    congr 1
    funext a
    simp
  omega
theorem Fo.len_drop {t : Fo} (h : t.WF) {n : Nat} (hn : t.there n = true) : (t.drop n).len + 1 = t.len := by
  have h1 := (h.drop hn).len
  have h2 := h.len
  rw [Fo.drop_free, Fo.drop_size] at h1
  simp at h1
  omega
theorem Fo.len_prune {t : Fo} (h : t.WF) {n : Nat} {l : List Nat} (hl : Pre t (t.kids n) l) : (t.prune n l).len + l.length = t.len := by
  have h1 := (h.prune hl).len
  have h2 := h.len
  have e1 : (t.prune n l).free = l.reverse ++ t.free := rfl
  have e2 : (t.prune n l).size = t.size := rfl
  rw [e1, e2] at h1
  simp at h1
  omega
end Go.Proofs
end
section
namespace Go.Proofs
open Go.RowKit
set_option linter.unusedVariables false
set_option linter.unusedSimpArgs false

/-! ### The program's forest and the plain one -/
def hdOr : List Nat → Int → Int
  | [], x => x
  | n :: _, _ => (n : Nat)
def lastOr : List Nat → Int → Int
  | [], x => x
  | n :: l, _ => lastOr l (n : Nat)
abbrev hdI (l : List Nat) : Int := hdOr l (-1)
abbrev lastI (l : List Nat) : Int := lastOr l (-1)
def oI : Option Nat → Int
  | none => -1
  | some n => (n : Nat)
theorem hdOr_append (A B : List Nat) (x : Int) : hdOr (A ++ B) x = hdOr A (hdOr B x) := by cases A <;> rfl
theorem lastOr_append (A B : List Nat) (x : Int) : lastOr (A ++ B) x = lastOr B (lastOr A x) := by
  induction A generalizing x with
  | nil => rfl
  | cons a A ih => exact ih _
theorem lastOr_mem {A : List Nat} {x : Int} : (A = [] ∧ lastOr A x = x) ∨ ∃ n ∈ A, lastOr A x = (n : Nat) := by
  induction A generalizing x with
  | nil => exact .inl ⟨rfl, rfl⟩
  | cons a A ih =>
    right
    rcases ih (x := (a : Nat)) with ⟨rfl, h⟩ | ⟨n, hn, h⟩
    · exact ⟨a, by simp, rfl⟩
    · exact ⟨n, by simp [hn], h⟩
theorem hdOr_mem {A : List Nat} {x : Int} : (A = [] ∧ hdOr A x = x) ∨ ∃ n ∈ A, hdOr A x = (n : Nat) := by
  cases A with
  | nil => exact .inl ⟨rfl, rfl⟩
  | cons a A => exact .inr ⟨a, by simp, rfl⟩
theorem nd_get {c : Tr} {k : Nat} (h : k < c.N.length) : c.N[k]? = some (c.nd (k : Nat)) := by
  obtain ⟨d, hd⟩ : ∃ d, c.N[k]? = some d := ⟨_, List.getElem?_eq_getElem h⟩
  rw [nd_at hd, hd]
theorem nd_upd {c : Tr} {k j : Nat} {f : Nd → Nd} (h : k < c.N.length) : (c.upd k f).nd (j : Nat) = if j = k then f (c.nd (k : Nat)) else c.nd (j : Nat) := by
  have h1 : ∀ (c : Tr) (j : Nat), c.nd (j : Nat) = (c.N[j]?).getD nd0 := fun c j => by unfold Tr.nd; rw [if_pos (by omega), Int.toNat_natCast]
  rw [h1, h1, h1, upd_get]
  by_cases e : j = k
  · subst e
    simp [h]
  · rw [if_neg e, if_neg e]
/-- -1, or a place that was taken. -/
def In (c : Tr) (i : Int) : Prop := i = -1 ∨ ∃ k : Nat, i = (k : Nat) ∧ k < c.N.length
theorem In.ix {c : Tr} {i : Int} (h : In c i) : Ix c i := by
  rcases h with h | ⟨k, rfl, hk⟩
  · exact .inl h
  · exact .inr ⟨k, _, rfl, nd_get hk⟩
theorem setHd_nd {c : Tr} {p x : Int} (hp : In c p) (j : Nat) : (c.setHd p x).nd (j : Nat) = if p = (j : Nat) then { c.nd (j : Nat) with child := x } else c.nd (j : Nat) := by
  unfold Tr.setHd
  rcases hp with rfl | ⟨k, rfl, hk⟩
  · rw [if_pos rfl, if_neg (by omega)]; rfl
  · rw [if_neg (by omega), Int.toNat_natCast, nd_upd hk]
    by_cases e : j = k
    · subst e; rw [if_pos rfl, if_pos rfl]
    · rw [if_neg e, if_neg (by omega)]
theorem setHd_len (c : Tr) (p x : Int) : (c.setHd p x).N.length = c.N.length := by unfold Tr.setHd; split; rfl; exact upd_len ..
theorem join_nd {c : Tr} {p l r : Int} (hp : In c p) (hl : In c l) (hr : In c r) (j : Nat) :
    (c.join p l r).nd (j : Nat) = ⟨(c.nd (j : Nat)).there, (c.nd (j : Nat)).par, if l = -1 ∧ p = (j : Nat) then r else (c.nd (j : Nat)).child, if r = (j : Nat) then l else (c.nd (j : Nat)).left, if l = (j : Nat) then r else (c.nd (j : Nat)).right⟩ := by
  have h1 : (c.join1 p l r).nd (j : Nat) = ⟨(c.nd (j : Nat)).there, (c.nd (j : Nat)).par, if l = -1 ∧ p = (j : Nat) then r else (c.nd (j : Nat)).child, (c.nd (j : Nat)).left, if l = (j : Nat) then r else (c.nd (j : Nat)).right⟩ := by
    unfold Tr.join1
    rcases hl with rfl | ⟨k, rfl, hk⟩
    · rw [if_pos rfl, setHd_nd hp, if_neg (show ¬ ((-1 : Int) = (j : Nat)) by omega)]
      by_cases e : p = (j : Nat)
      · rw [if_pos e, if_pos ⟨rfl, e⟩]
      · rw [if_neg e, if_neg (fun h => e h.2)]
    · rw [if_neg (by omega), Int.toNat_natCast, nd_upd hk, if_neg (show ¬ ((k : Int) = -1 ∧ p = (j : Nat)) by omega)]
      by_cases e : j = k
      · subst e; rw [if_pos rfl, if_pos rfl]
      · rw [if_neg e, if_neg (by omega)]
  unfold Tr.join
  rcases hr with rfl | ⟨k, rfl, hk⟩
  · rw [if_pos rfl, h1, if_neg (show ¬ ((-1 : Int) = (j : Nat)) by omega)]
  · rw [if_neg (by omega), Int.toNat_natCast, nd_upd (by rw [join1_len]; exact hk)]
    by_cases e : j = k
    · subst e; rw [if_pos rfl, h1, if_pos rfl]
    · rw [if_neg e, h1, if_neg (show ¬ ((k : Int) = (j : Nat)) by omega)]
theorem join_root {c : Tr} {p l r : Int} (hp : In c p) : (c.join p l r).root = if l = -1 ∧ p = -1 then r else c.root := by
  have h1 : (c.join1 p l r).root = if l = -1 ∧ p = -1 then r else c.root := by
    unfold Tr.join1 Tr.setHd
    by_cases h1 : l = -1
    · rw [if_pos h1]
      by_cases h2 : p = -1
      · rw [if_pos h2, if_pos ⟨h1, h2⟩]
      · rw [if_neg h2, if_neg (fun h => h2 h.2), upd_root]
    · rw [if_neg h1, if_neg (fun h => h1 h.1), upd_root]
  unfold Tr.join
  split
  · exact h1
  · rw [upd_root]; exact h1
theorem In.mono {c c' : Tr} {i : Int} (h : In c i) (hl : c'.N.length = c.N.length) : In c' i := by
  rcases h with h | ⟨k, rfl, hk⟩
  · exact .inl h
  · exact .inr ⟨k, rfl, by omega⟩
/-- Who stands in a row, each beside the next one. -/
def Lk (c : Tr) : Int → List Nat → Int → Prop
  | _, [], _ => True
  | pv, x :: l, nx => (c.nd (x : Nat)).left = pv ∧ (c.nd (x : Nat)).right = hdOr l nx ∧ Lk c (x : Nat) l nx
theorem Lk.congr {c c' : Tr} : ∀ {l : List Nat} {pv nx : Int}, Lk c pv l nx → (∀ x ∈ l, (c'.nd (x : Nat)).left = (c.nd (x : Nat)).left ∧ (c'.nd (x : Nat)).right = (c.nd (x : Nat)).right) → Lk c' pv l nx
  | [], _, _, _, _ => trivial
  | x :: l, pv, nx, h, hc => ⟨(hc x (by simp)).1.trans h.1, (hc x (by simp)).2.trans h.2.1, Lk.congr h.2.2 (fun y hy => hc y (by simp [hy]))⟩
theorem Lk.append {c : Tr} : ∀ {A B : List Nat} {pv nx : Int}, Lk c pv (A ++ B) nx ↔ Lk c pv A (hdOr B nx) ∧ Lk c (lastOr A pv) B nx
  | [], B, pv, nx => by simp [Lk, lastOr]
  | a :: A, B, pv, nx => by
    simp only [List.cons_append, Lk, lastOr, hdOr_append, Lk.append (A := A), and_assoc]
/-- The rows A and B become one. -/
theorem Lk.join {c : Tr} {A B : List Nat} {pv nx ny p : Int} (hA : Lk c (-1) A nx) (hB : Lk c pv B ny) (hny : B = [] → ny = -1) (hp : In c p) (hAl : ∀ x ∈ A, x < c.N.length) (hBl : ∀ x ∈ B, x < c.N.length) (hn : (A ++ B).Nodup) :
    Lk (c.join p (lastI A) (hdI B)) (-1) (A ++ B) ny := by
  have inA : In c (lastI A) := by
    rcases lastOr_mem (A := A) (x := -1) with ⟨_, h⟩ | ⟨n, hn, h⟩
    · exact .inl h
    · exact .inr ⟨n, h, hAl n hn⟩
  have inB : In c (hdI B) := by
    rcases hdOr_mem (A := B) (x := -1) with ⟨_, h⟩ | ⟨n, hn, h⟩
    · exact .inl h
    · exact .inr ⟨n, h, hBl n hn⟩
  have hnd := join_nd hp inA inB
  obtain ⟨nA, nB, nAB⟩ := List.nodup_append.1 hn
  rw [Lk.append]
  constructor
  · -- A: the last one's right is set
    have key : ∀ (A' : List Nat) (pv : Int), Lk c pv A' nx → (∀ x ∈ A', x ∈ A) → A'.Nodup → lastOr A' (-1) = lastI A ∨ A' = [] → Lk (c.join p (lastI A) (hdI B)) pv A' (hdOr B ny) := by
      intro A'
      induction A' with
      | nil => intro _ _ _ _ _; trivial
      | cons x l ih =>
        intro pv h hm hnd' hla
        obtain ⟨h1, h2, h3⟩ := h
        obtain ⟨hx, hl⟩ := List.nodup_cons.1 hnd'
        have hxB : ¬ (hdI B = (x : Nat)) := by
          intro e
          rcases hdOr_mem (A := B) (x := -1) with ⟨_, h⟩ | ⟨n, hn, h⟩
          · have e' : (-1 : Int) = (x : Nat) := h.symm.trans e
            omega
          · have e' : ((n : Nat) : Int) = (x : Nat) := h.symm.trans e
            have : n = x := by omega
            subst this
            exact nAB n (hm n (by simp)) n hn rfl
        refine ⟨?_, ?_, ih _ h3 (fun y hy => hm y (by simp [hy])) hl ?_⟩
        · rw [hnd x]
          simp only
          rw [if_neg hxB]
          exact h1
        · rw [hnd x]
          simp only
          cases l with
          | nil =>
            have : lastI A = (x : Nat) := by rcases hla with h | h; exact h.symm; cases h
            rw [if_pos this]
            show hdI B = hdOr B ny
            cases B with
            | nil => rw [hny rfl]
            | cons b B => rfl
          | cons y l =>
            have hla' : lastOr (y :: l) (-1) = lastI A := by rcases hla with h | h; exact h; cases h
            have : ¬ (lastI A = (x : Nat)) := by
              intro e
              rcases lastOr_mem (A := y :: l) (x := -1) with ⟨h, _⟩ | ⟨n, hn, h⟩
              · cases h
              · have e' : ((n : Nat) : Int) = (x : Nat) := h.symm.trans (hla'.trans e)
                have : n = x := by omega
                subst this
                exact hx hn
            rw [if_neg this]
            exact h2
        · cases l with
          | nil => exact .inr rfl
          | cons y l => left; rcases hla with h | h; exact h; cases h
    exact key A (-1) hA (fun x hx => hx) nA (.inl rfl)
  · cases B with
    | nil => trivial
    | cons b B =>
      obtain ⟨h1, h2, h3⟩ := hB
      obtain ⟨hb, hB'⟩ := List.nodup_cons.1 nB
      have notA : ∀ x ∈ b :: B, ¬ (lastI A = (x : Nat)) := by
        intro x hx e
        rcases lastOr_mem (A := A) (x := -1) with ⟨_, h⟩ | ⟨n, hn, h⟩
        · have e' : (-1 : Int) = (x : Nat) := h.symm.trans e
          omega
        · have e' : ((n : Nat) : Int) = (x : Nat) := h.symm.trans e
          have : n = x := by omega
          subst this
          exact nAB n hn n hx rfl
      refine ⟨?_, ?_, h3.congr fun x hx => ?_⟩
      · rw [hnd b]
        show (if ((b : Nat) : Int) = (b : Nat) then lastI A else _) = _
        rw [if_pos rfl]
      · rw [hnd b]
        simp only
        rw [if_neg (notA b (by simp))]
        exact h2
      · rw [hnd x]
        simp only
        have : ¬ (hdI (b :: B) = (x : Nat)) := by
          show ¬ (((b : Nat) : Int) = (x : Nat))
          intro e
          have : b = x := by omega
          subst this
          exact hb hx
        rw [if_neg this, if_neg (notA x (by simp [hx]))]
        exact ⟨rfl, rfl⟩

/-- The program's forest is the plain one. -/
structure Sim (c : Tr) (t : Fo) : Prop where
  size : c.size = t.size
  len : c.N.length ≤ t.size
  one : 1 ≤ t.size
  big : t.size ≤ 4096
  wf : t.WF
  node : ∀ n, t.there n = true → n < c.N.length ∧ (c.nd (n : Nat)).there = true ∧ (c.nd (n : Nat)).par = oI (t.par n) ∧ (c.nd (n : Nat)).child = hdI (t.kids n)
  off : ∀ n, t.there n = false → c.nd (n : Nat) = nd0
  root : c.root = hdI t.roots
  links : ∀ o, Lk c (-1) (t.row o) (-1)
  free : t.free = c.F.reverse ++ List.range' c.N.length (t.size - c.N.length)
theorem Sim.new {n : Nat} (h1 : 1 ≤ n) (h2 : n ≤ 4096) : Sim (tr0 n) (Fo.new n) where
  size := rfl
  len := Nat.zero_le _
  one := h1
  big := h2
  wf := Fo.new_wf n
  node k h := by cases h
  off k _ := by unfold Tr.nd tr0; simp
  root := rfl
  links o := by cases o <;> trivial
  free := by simp [Fo.new, tr0, List.range_eq_range']
/-- Is there such a node? -/
def Fo.has (t : Fo) (i : Int) : Bool := decide (0 ≤ i) && t.there i.toNat
theorem Fo.has_nat (t : Fo) (n : Nat) : t.has (n : Nat) = t.there n := by simp [Fo.has]
theorem Fo.has_neg (t : Fo) {i : Int} (h : i < 0) : t.has i = false := by simp [Fo.has]; omega
section
variable {c : Tr} {t : Fo}
theorem Sim.lenN (h : Sim c t) : c.N.length ≤ 4096 := Nat.le_trans h.len h.big
theorem Sim.has (h : Sim c t) (i : Int) : (c.nd i).there = t.has i := by
  by_cases hi : i < 0
  · rw [nd_neg hi, t.has_neg hi]; rfl
  · obtain ⟨n, rfl⟩ := Int.eq_ofNat_of_zero_le (by omega : 0 ≤ i)
    rw [t.has_nat]
    cases ht : t.there n with
    | true => exact (h.node n ht).2.1
    | false => rw [h.off n ht]; rfl
theorem Sim.count (h : Sim c t) : c.N.length - c.F.length = t.len ∧ c.F.length ≤ c.N.length := by
  have h1 := h.wf.len
  have h2 := congrArg List.length h.free
  simp at h2
  have hnd := h.wf.frees.1
  rw [h.free] at hnd
  have hF : c.F.Nodup := by
    have := (List.nodup_append.1 hnd).1
    exact (List.reverse_perm c.F).nodup_iff.1 this
  have hlt : ∀ x ∈ c.F, x < c.N.length := by
    intro x hx
    have hmem : x ∈ t.free := by rw [h.free]; simp [hx]
    have h3 := ((h.wf.frees.2 x).1 hmem).1
    have := (List.nodup_append.1 hnd).2.2 x (by simp [hx])
    by_cases hc : x < c.N.length
    · exact hc
    · exfalso
      exact this x (by rw [List.mem_range'_1]; omega) rfl
  have hle : c.F.length ≤ c.N.length := by
    have := List.Nodup.length_le_of_subset hF (l₂ := List.range c.N.length) (fun x hx => by simpa using hlt x hx)
    simpa using this
  have := h.len
  omega
theorem Sim.in_ (h : Sim c t) {o : Option Nat} (ho : ∀ p, o = some p → t.there p = true) : In c (oI o) := by
  cases o with
  | none => exact .inl rfl
  | some p => exact .inr ⟨p, rfl, (h.node p (ho p rfl)).1⟩
theorem Sim.hd (h : Sim c t) {o : Option Nat} (ho : ∀ p, o = some p → t.there p = true) : c.hd (oI o) = hdI (t.row o) := by
  cases o with
  | none => show c.hd (-1) = _; unfold Tr.hd; rw [if_pos rfl]; exact h.root
  | some p =>
    show c.hd (p : Nat) = _
    unfold Tr.hd
    rw [if_neg (by omega)]
    exact (h.node p (ho p rfl)).2.2.2
theorem Sim.lt (h : Sim c t) {o : Option Nat} {n : Nat} (hn : n ∈ t.row o) : n < c.N.length := (h.node n (h.wf.par o n hn).1).1
theorem Lk.seq {c : Tr} : ∀ {l : List Nat} {pv : Int}, Lk c pv l (-1) → (∀ x ∈ l, x < c.N.length) → Seq c (hdI l) l
  | [], _, _, _ => .nil
  | x :: l, pv, h, hl => by
    refine .cons (nd_get (hl x (by simp))) ?_
    rw [h.2.1]
    exact Lk.seq h.2.2 (fun y hy => hl y (by simp [hy]))
theorem Sim.seq (h : Sim c t) {o : Option Nat} (ho : ∀ p, o = some p → t.there p = true) : Seq c (c.hd (oI o)) (t.row o) := by
  rw [h.hd ho]
  exact (h.links o).seq (fun x hx => h.lt hx)
end
end Go.Proofs
end
section
namespace Go.Proofs
open Go.RowKit
set_option linter.unusedVariables false
set_option linter.unusedSimpArgs false

section
variable {c : Tr} {t : Fo}
/-- A free place is taken. -/
def Took (c c1 : Tr) (a : Nat) : Prop := (∃ F', c.F = F' ++ [a] ∧ c1 = { c with F := F' }) ∨ (c.F = [] ∧ a = c.N.length ∧ c1 = { c with N := c.N ++ [nd0] })
theorem nd_more (c : Tr) (i : Int) : ({ c with N := c.N ++ [nd0] } : Tr).nd i = c.nd i := by
  unfold Tr.nd
  split
  · by_cases h : i.toNat < c.N.length
    · rw [List.getElem?_append_left h]
    · rw [List.getElem?_append_right (by omega), List.getElem?_eq_none (l := c.N) (by omega)]
      cases hk : i.toNat - c.N.length with
      | zero => rfl
      | succ k => rfl
  · rfl
structure Taken (c c1 : Tr) (a : Nat) (t : Fo) (r : List Nat) : Prop where
  took : Took c c1 a
  lt : a < c1.N.length
  len : c1.N.length ≤ t.size
  le : c.N.length ≤ c1.N.length
  free : r = c1.F.reverse ++ List.range' c1.N.length (t.size - c1.N.length)
  nd : ∀ i, c1.nd i = c.nd i
  root : c1.root = c.root
  size : c1.size = c.size
theorem Sim.took (h : Sim c t) {a : Nat} {r : List Nat} (hf : t.free = a :: r) : ∃ c1, Taken c c1 a t r := by
  have hfr := h.free
  rw [hf] at hfr
  have hlen := h.len
  rcases List.eq_nil_or_concat c.F with h0 | ⟨F', b, h0⟩
  · rw [h0] at hfr
    simp only [List.reverse_nil, List.nil_append] at hfr
    obtain ⟨m, hm⟩ : ∃ m, t.size - c.N.length = m + 1 := by
      cases hk : t.size - c.N.length with
      | zero => rw [hk] at hfr; cases hfr
      | succ m => exact ⟨m, rfl⟩
    rw [hm, List.range'_succ] at hfr
    injection hfr with h1 h2
    refine ⟨{ c with N := c.N ++ [nd0] }, .inr ⟨h0, h1, rfl⟩, by simp [h1], by simp; omega, by simp, ?_, fun i => nd_more c i, rfl, rfl⟩
    rw [h0, h2]
    simp only [List.reverse_nil, List.nil_append, List.length_append, List.length_singleton]
    congr 1
    omega
  · rw [List.concat_eq_append] at h0
    rw [h0] at hfr
    simp only [List.reverse_append, List.reverse_cons, List.reverse_nil, List.nil_append, List.cons_append] at hfr
    injection hfr with h1 h2
    subst h1
    have ha : a ∈ t.free := by rw [hf]; simp
    have hle := h.count.2
    have hlt : a < c.N.length := by
      have hnd := h.wf.frees.1
      rw [h.free] at hnd
      have h3 := ((h.wf.frees.2 a).1 ha).1
      have := (List.nodup_append.1 hnd).2.2 a (by rw [h0]; simp)
      by_cases hc : a < c.N.length
      · exact hc
      · exfalso
        exact this a (by rw [List.mem_range'_1]; omega) rfl
    exact ⟨{ c with F := F' }, .inl ⟨F', h0, rfl⟩, hlt, hlen, Nat.le_refl _, h2, fun i => rfl, rfl, rfl⟩
/-- What Add makes of the forest. -/
def Tr.add (c1 : Tr) (p : Int) (a : Nat) (h0 : Int) : Tr := ((c1.upd a (fun _ => ⟨true, p, -1, 0, 0⟩)).join p (a : Nat) h0).join p (-1) (a : Nat)
theorem add_len (c1 : Tr) (p : Int) (a : Nat) (h0 : Int) : (c1.add p a h0).N.length = c1.N.length := by unfold Tr.add; rw [join_len, join_len, upd_len]
theorem add_F (c1 : Tr) (p : Int) (a : Nat) (h0 : Int) : (c1.add p a h0).F = c1.F := by unfold Tr.add; rw [join_F, join_F, upd_F]
theorem add_size (c1 : Tr) (p : Int) (a : Nat) (h0 : Int) : (c1.add p a h0).size = c1.size := by unfold Tr.add; rw [join_size, join_size, upd_size]
theorem add_nd {c1 : Tr} {p : Int} {a : Nat} {h0 : Int} (ha : a < c1.N.length) (hp : In c1 p) (hpa : p ≠ (a : Nat)) (hh : In c1 h0) (hha : h0 ≠ (a : Nat)) (j : Nat) :
    (c1.add p a h0).nd (j : Nat) = if j = a then ⟨true, p, -1, -1, h0⟩ else ⟨(c1.nd (j : Nat)).there, (c1.nd (j : Nat)).par, if p = (j : Nat) then ((a : Nat) : Int) else (c1.nd (j : Nat)).child, if h0 = (j : Nat) then ((a : Nat) : Int) else (c1.nd (j : Nat)).left, (c1.nd (j : Nat)).right⟩ := by
  unfold Tr.add
  have l2 : (c1.upd a (fun _ => ⟨true, p, -1, 0, 0⟩)).N.length = c1.N.length := upd_len ..
  have l3 : ((c1.upd a (fun _ => ⟨true, p, -1, 0, 0⟩)).join p (a : Nat) h0).N.length = c1.N.length := by rw [join_len, l2]
  rw [join_nd (hp.mono l3) (.inl rfl) (.inr ⟨a, rfl, by rw [l3]; exact ha⟩), join_nd (hp.mono l2) (.inr ⟨a, rfl, by rw [l2]; exact ha⟩) (hh.mono l2), nd_upd ha]
  by_cases e : j = a
  · subst e
    simp [hpa, hha]
  · have e1 : ¬ ((a : Int) = (j : Nat)) := by omega
    simp [e, e1]
theorem add_root {c1 : Tr} {p : Int} {a : Nat} {h0 : Int} (ha : a < c1.N.length) (hp : In c1 p) : (c1.add p a h0).root = if p = -1 then ((a : Nat) : Int) else c1.root := by
  unfold Tr.add
  have l2 : (c1.upd a (fun _ => ⟨true, p, -1, 0, 0⟩)).N.length = c1.N.length := upd_len ..
  have l3 : ((c1.upd a (fun _ => ⟨true, p, -1, 0, 0⟩)).join p (a : Nat) h0).N.length = c1.N.length := by rw [join_len, l2]
  rw [join_root (hp.mono l3), join_root (hp.mono l2), upd_root]
  simp
theorem Sim.add (h : Sim c t) {a : Nat} {r : List Nat} (hf : t.free = a :: r) {c1 : Tr} (hk : Taken c c1 a t r) {o : Option Nat} (ho : ∀ p, o = some p → t.there p = true) :
    Sim (c1.add (oI o) a (hdI (t.row o))) (t.addAt o a r) := by
  have hna : t.there a = false := ((h.wf.frees.2 a).1 (by rw [hf]; simp)).2
  have nin : ∀ o', a ∉ t.row o' := fun o' hc => by have := (h.wf.par o' a hc).1; rw [hna] at this; cases this
  have hp : In c1 (oI o) := by
    rcases h.in_ ho with h1 | ⟨k, h1, h2⟩
    · exact .inl h1
    · exact .inr ⟨k, h1, Nat.lt_of_lt_of_le h2 hk.le⟩
  have hpa : oI o ≠ (a : Nat) := by
    cases o with
    | none => show (-1 : Int) ≠ _; omega
    | some p =>
      show ((p : Nat) : Int) ≠ _
      intro e
      have : p = a := by omega
      subst this
      rw [ho p rfl] at hna; cases hna
  have hh : In c1 (hdI (t.row o)) := by
    rcases hdOr_mem (A := t.row o) (x := -1) with ⟨_, h1⟩ | ⟨n, hn, h1⟩
    · exact .inl h1
    · exact .inr ⟨n, h1, Nat.lt_of_lt_of_le (h.lt hn) hk.le⟩
  have hha : hdI (t.row o) ≠ (a : Nat) := by
    rcases hdOr_mem (A := t.row o) (x := -1) with ⟨_, h1⟩ | ⟨n, hn, h1⟩
    · intro e
      have e' : (-1 : Int) = (a : Nat) := h1.symm.trans e
      omega
    · intro e
      have e' : ((n : Nat) : Int) = (a : Nat) := h1.symm.trans e
      have : n = a := by omega
      subst this
      exact nin o hn
  have hnd := add_nd hk.lt hp hpa hh hha
  simp only [hk.nd] at hnd
  have th : ∀ k, t.there k = true → k ≠ a := fun k hk e => by rw [e, hna] at hk; cases hk
  refine ⟨?_, ?_, ?_, ?_, h.wf.add hf ho, ?_, ?_, ?_, ?_, ?_⟩
  · rw [add_size, hk.size, h.size, Fo.addAt_size]
  · rw [add_len, Fo.addAt_size]; exact hk.len
  · rw [Fo.addAt_size]; exact h.one
  · rw [Fo.addAt_size]; exact h.big
  · intro n hn
    rw [Fo.addAt_there] at hn
    rw [hnd n, Fo.addAt_par, add_len]
    have kr := Fo.addAt_row t o (some n) a r
    by_cases e : n = a
    · subst e
      rw [if_pos rfl, upd_same]
      refine ⟨hk.lt, rfl, rfl, ?_⟩
      show (-1 : Int) = hdI ((t.addAt o n r).row (some n))
      rw [kr, if_neg (fun e => hpa (by rw [← e]; rfl))]
      have : t.row (some n) = [] := (h.wf.off n hna).1
      rw [this]; rfl
    · rw [upd_other _ _ e] at hn
      obtain ⟨q1, q2, q3, q4⟩ := h.node n hn
      rw [if_neg e, upd_other _ _ e]
      refine ⟨Nat.lt_of_lt_of_le q1 hk.le, q2, q3, ?_⟩
      show (if oI o = (n : Nat) then ((a : Nat) : Int) else _) = hdI ((t.addAt o a r).row (some n))
      rw [kr]
      by_cases e2 : some n = o
      · subst e2
        rw [if_pos (show oI (some n) = (n : Nat) from rfl), if_pos rfl]; rfl
      · rw [if_neg (fun e3 => e2 (by cases o with | none => exact absurd e3 (by show ¬ ((-1 : Int) = _); omega) | some p => exact congrArg some (by have : ((p : Nat) : Int) = (n : Nat) := e3; omega))), if_neg e2]
        exact q4
  · intro n hn
    rw [Fo.addAt_there] at hn
    have e : n ≠ a := fun e => by subst e; rw [upd_same] at hn; cases hn
    rw [upd_other _ _ e] at hn
    rw [hnd n, if_neg e, h.off n hn]
    have e1 : ¬ (oI o = (n : Nat)) := by
      intro e3
      cases o with
      | none => exact absurd e3 (by show ¬ ((-1 : Int) = _); omega)
      | some p =>
        have : ((p : Nat) : Int) = (n : Nat) := e3
        have : p = n := by omega
        subst this
        rw [ho p rfl] at hn; cases hn
    have e2 : ¬ (hdI (t.row o) = (n : Nat)) := by
      intro e3
      rcases hdOr_mem (A := t.row o) (x := -1) with ⟨_, h1⟩ | ⟨m, hm, h1⟩
      · have e' : (-1 : Int) = (n : Nat) := h1.symm.trans e3
        omega
      · have e' : ((m : Nat) : Int) = (n : Nat) := h1.symm.trans e3
        have : m = n := by omega
        subst this
        rw [(h.wf.par o m hm).1] at hn; cases hn
    rw [if_neg e1, if_neg e2]
  · rw [add_root hk.lt hp]
    show _ = hdI ((t.addAt o a r).row none)
    rw [Fo.addAt_row]
    cases o with
    | none => rw [if_pos (show oI none = -1 from rfl), if_pos rfl]; rfl
    | some p =>
      rw [if_neg (show ¬ (oI (some p) = -1) by show ¬ (((p : Nat) : Int) = -1); omega), if_neg (by simp), hk.root]
      exact h.root
  · intro o'
    rw [Fo.addAt_row]
    by_cases e : o' = o
    · subst e
      rw [if_pos rfl]
      have hl := h.links o'
      have hnd' := h.wf.nodup o'
      have hr := nin o'
      refine ⟨?_, ?_, ?_⟩
      · rw [hnd a, if_pos rfl]
      · rw [hnd a, if_pos rfl]
      · cases hR : t.row o' with
        | nil => trivial
        | cons y R =>
          rw [hR] at hl hnd' hr
          obtain ⟨l1, l2, l3⟩ := hl
          have hya : y ≠ a := fun e => hr (by simp [e])
          obtain ⟨hy, _⟩ := List.nodup_cons.1 hnd'
          rw [hR] at hnd
          refine ⟨?_, ?_, l3.congr fun x hx => ?_⟩
          · rw [hnd y, if_neg hya]
            show (if ((y : Nat) : Int) = (y : Nat) then _ else _) = _
            rw [if_pos rfl]
          · rw [hnd y, if_neg hya]
            exact l2
          · rw [hnd x, if_neg (fun e => hr (by simp [← e, hx]))]
            have : ¬ (hdI (y :: R) = (x : Nat)) := by
              show ¬ (((y : Nat) : Int) = (x : Nat))
              intro e
              have : y = x := by omega
              subst this
              exact hy hx
            simp only [if_neg this, and_self]
    · rw [if_neg e]
      refine (h.links o').congr fun x hx => ?_
      have hxa : x ≠ a := fun e => nin o' (e ▸ hx)
      rw [hnd x, if_neg hxa]
      have : ¬ (hdI (t.row o) = (x : Nat)) := by
        intro e3
        rcases hdOr_mem (A := t.row o) (x := -1) with ⟨_, h1⟩ | ⟨m, hm, h1⟩
        · have e' : (-1 : Int) = (x : Nat) := h1.symm.trans e3
          omega
        · have e' : ((m : Nat) : Int) = (x : Nat) := h1.symm.trans e3
          have : m = x := by omega
          subst this
          have q1 := (h.wf.par o m hm).2
          have q2 := (h.wf.par o' m hx).2
          exact e (by rw [← q2, q1])
      simp only [if_neg this, and_self]
  · rw [Fo.addAt_free, add_F, add_len, Fo.addAt_size]
    exact hk.free
/-- No place is free. -/
theorem Sim.full (h : Sim c t) : t.free = [] ↔ t.len = t.size := by
  have := h.wf.len
  constructor
  · intro e; rw [e] at this; simpa using this
  · intro e; exact List.eq_nil_of_length_eq_zero (by omega)
end
end Go.Proofs
end
section
namespace Go.Proofs
open Go.RowKit
set_option linter.unusedVariables false
set_option linter.unusedSimpArgs false

section
variable {c : Tr} {t : Fo}
/-! ### Going over what is below a node -/
/-- What is still to be gone over behind the children of a node. -/
inductive Stk (t : Fo) (r : Nat) : Nat → List Nat → Prop where
  | base : Stk t r r []
  | step {o p : Nat} {A L B : List Nat} : o ≠ r → t.kids p = A ++ o :: L → Stk t r p B → Stk t r o (L ++ B)
theorem Stk.anc {r o : Nat} {B : List Nat} (h : Stk t r o B) : o = r ∨ Anc t r o := by
  induction h with
  | base => exact .inl rfl
  | step _ hk _ ih =>
    right
    rcases ih with rfl | ih
    · exact .kid (by rw [hk]; simp)
    · exact .step (by rw [hk]; simp) ih
theorem Stk.up (h : Sim c t) {r o : Nat} {B : List Nat} (hs : Stk t r o B) : ∀ {x : Nat} {A L : List Nat}, t.kids o = A ++ x :: L → ∃ j, Up c r j x (hdI (L ++ B)) := by
  have get : ∀ {o x : Nat} {A L : List Nat}, t.kids o = A ++ x :: L → ∃ d, c.N[x]? = some d ∧ d.right = hdI L ∧ d.par = (o : Nat) := by
    intro o x A L hk
    have hx : x ∈ t.kids o := by rw [hk]; simp
    obtain ⟨q1, q2, q3⟩ := h.wf.kid hx
    obtain ⟨n1, n2, n3, n4⟩ := h.node x q1
    have hl := h.links (some o)
    have : t.row (some o) = t.kids o := rfl
    rw [this, hk, Lk.append] at hl
    exact ⟨_, nd_get n1, hl.2.2.1, by rw [n3, q2]; rfl⟩
  induction hs with
  | base =>
    intro x A L hk
    obtain ⟨d, hd, hr, hp⟩ := get hk
    cases L with
    | nil => exact ⟨0, .stop hd hr hp⟩
    | cons y L =>
      have := Up.side (c := c) (r := r) hd (by rw [hr]; show ((y : Nat) : Int) ≠ -1; omega)
      rw [hr] at this
      exact ⟨0, this⟩
  | @step o p A' L' B' hne hk' hs' ih =>
    intro x A L hk
    obtain ⟨d, hd, hr, hp⟩ := get hk
    cases L with
    | nil =>
      obtain ⟨j, hj⟩ := ih hk'
      exact ⟨j + 1, .up hd hr hp hne hj⟩
    | cons y L =>
      have := Up.side (c := c) (r := r) hd (by rw [hr]; show ((y : Nat) : Int) ≠ -1; omega)
      rw [hr] at this
      exact ⟨0, this⟩
def OkS (t : Fo) (r : Nat) (R : List Nat) : Prop := R = [] ∨ ∃ (o x : Nat) (A L B : List Nat), R = x :: (L ++ B) ∧ t.kids o = A ++ x :: L ∧ Stk t r o B
theorem Stk.ok {r o : Nat} {B : List Nat} (hs : Stk t r o B) : ∀ {A L : List Nat}, t.kids o = A ++ L → OkS t r (L ++ B) := by
  induction hs with
  | base =>
    intro A L hk
    cases L with
    | nil => exact .inl rfl
    | cons x L => exact .inr ⟨r, x, A, L, [], rfl, hk, .base⟩
  | @step o p A' L' B' hne hk' hs' ih =>
    intro A L hk
    cases L with
    | nil => exact ih (A := A' ++ [o]) (by rw [hk']; simp)
    | cons x L => exact .inr ⟨o, x, A, L, L' ++ B', rfl, hk, .step hne hk' hs'⟩
theorem Pre.tv (h : Sim c t) {r : Nat} {R out : List Nat} (hp : Pre t R out) : OkS t r R → Tv c r (hdI R) out := by
  induction hp with
  | nil => intro _; exact .nil
  | @cons x rest out hp ih =>
    intro hok
    rcases hok with h0 | ⟨o, x', A, L, B, hR, hk, hs⟩
    · cases h0
    · injection hR with h1 h2
      subst h1 h2
      have hx : x ∈ t.kids o := by rw [hk]; simp
      obtain ⟨q1, q2, q3⟩ := h.wf.kid hx
      obtain ⟨n1, n2, n3, n4⟩ := h.node x q1
      have hxr : x ≠ r := by
        intro e
        subst e
        rcases hs.anc with rfl | ha
        · exact (Anc.kid hx).irrefl h.wf
        · exact (Anc.step hx ha).irrefl h.wf
      cases hkx : t.kids x with
      | nil =>
        obtain ⟨j, hj⟩ := hs.up h hk
        rw [hkx] at n4 ih
        exact .side (nd_get n1) n4 hj (ih (hs.ok (A := A ++ [x]) (by rw [hk]; simp)))
      | cons k ks =>
        rw [hkx] at n4 ih
        have := ih ((Stk.step hxr hk hs).ok (A := []) (L := k :: ks) (by rw [hkx]; rfl))
        refine .down (nd_get n1) (by rw [n4]; show ((k : Nat) : Int) ≠ -1; omega) ?_
        rw [n4]
        exact this
theorem Sim.tv (h : Sim c t) {r : Nat} {l : List Nat} (hl : Pre t (t.kids r) l) : Tv c r (hdI (t.kids r)) l :=
  hl.tv h (by have := (Stk.base (t := t) (r := r)).ok (A := []) (L := t.kids r) rfl; simpa using this)
/-! ### Who is above a node -/
theorem Sim.pa_there (h : Sim c t) : ∀ (n : Nat), t.there n = true → ∃ L, Pa c (n : Nat) L ∧ ∀ a, a ∈ L ↔ Anc t a n := by
  obtain ⟨d, hd⟩ := h.wf.depth
  have key : ∀ m n, d n < m → t.there n = true → ∃ L, Pa c (n : Nat) L ∧ ∀ a, a ∈ L ↔ Anc t a n := by
    intro m
    induction m with
    | zero => intro n hn; omega
    | succ m ih =>
      intro n hn ht
      obtain ⟨n1, n2, n3, n4⟩ := h.node n ht
      cases hp : t.par n with
      | none =>
        rw [hp] at n3
        exact ⟨[], .nil (fun hh => hh.2 n3), fun a => ⟨fun h => by (cases h), fun ha => (ha.root h.wf hp).elim⟩⟩
      | some p =>
        rw [hp] at n3
        obtain ⟨L, h1, h2⟩ := ih p (by have := hd n p ht hp; omega) (h.wf.up ht hp)
        have hm := h.wf.mem n ht
        rw [hp] at hm
        refine ⟨p :: L, .cons n2 n3 h1, fun a => ?_⟩
        rw [List.mem_cons, h2]
        constructor
        · rintro (rfl | ha)
          · exact .kid hm
          · exact .step hm ha
        · intro ha; exact ha.last h.wf hp
  exact fun n hn => key (d n + 1) n (by omega) hn
/-- Is the one under the other one? -/
def Fo.under (t : Fo) (i j : Int) : Prop := 0 ≤ i ∧ 0 ≤ j ∧ Anc t j.toNat i.toNat
theorem Sim.pa (h : Sim c t) (i : Int) : ∃ L, Pa c i L ∧ ∀ j : Int, j ∈ iN L ↔ t.under i j := by
  cases hi : t.has i with
  | false =>
    refine ⟨[], .nil (fun hh => by rw [h.has, hi] at hh; cases hh.1), fun j => ⟨fun h => by simp [iN] at h, fun hu => ?_⟩⟩
    have := (hu.2.2.there h.wf).2
    unfold Fo.has at hi
    simp [hu.1, this] at hi
  | true =>
    obtain ⟨n, rfl⟩ : ∃ n : Nat, i = (n : Nat) := Int.eq_ofNat_of_zero_le (by unfold Fo.has at hi; simp at hi; omega)
    rw [t.has_nat] at hi
    obtain ⟨L, h1, h2⟩ := h.pa_there n hi
    refine ⟨L, h1, fun j => ?_⟩
    unfold Fo.under iN
    simp only [List.mem_map, Int.toNat_natCast]
    constructor
    · rintro ⟨a, ha, rfl⟩
      exact ⟨by omega, by omega, (h2 a).1 ha⟩
    · rintro ⟨_, hj, ha⟩
      exact ⟨j.toNat, (h2 _).2 ha, by omega⟩
/-! ### Prune -/
theorem nd_clr {c : Tr} {l F : List Nat} (j : Nat) : ({ c with N := clr c.N l, F := F } : Tr).nd (j : Nat) = if j ∈ l then nd0 else c.nd (j : Nat) := by
  have h1 : ∀ (c : Tr) (j : Nat), c.nd (j : Nat) = (c.N[j]?).getD nd0 := fun c j => by unfold Tr.nd; rw [if_pos (by omega), Int.toNat_natCast]
  rw [h1, h1]
  show ((clr c.N l)[j]?).getD nd0 = _
  rw [clr_get]
  by_cases h1 : j ∈ l
  · rw [if_pos h1]
    by_cases h2 : j < c.N.length
    · rw [if_pos ⟨h1, h2⟩]; rfl
    · rw [if_neg (fun h => h2 h.2), List.getElem?_eq_none (by omega)]; rfl
  · rw [if_neg (fun h => h1 h.1), if_neg h1]
def Tr.prune (c : Tr) (n : Nat) (l : List Nat) : Tr := ({ c with N := clr c.N l, F := c.F ++ l } : Tr).upd n fun d => { d with child := -1 }
theorem Sim.prune (h : Sim c t) {n : Nat} (hn : t.there n = true) {l : List Nat} (hl : Pre t (t.kids n) l) : Sim (c.prune n l) (t.prune n l) := by
  have hw := h.wf.prune hl
  have hd := fun k => hl.desc k
  obtain ⟨n1, n2, n3, n4⟩ := h.node n hn
  have hnl : n ∉ l := fun hm => ((hd n).1 hm).irrefl h.wf
  have hnd : ∀ j : Nat, (c.prune n l).nd (j : Nat) = if j = n then { c.nd (n : Nat) with child := -1 } else if j ∈ l then nd0 else c.nd (j : Nat) := by
    intro j
    unfold Tr.prune
    rw [nd_upd (by simpa [clr_len] using n1), nd_clr, nd_clr, if_neg hnl]
  have hlen : (c.prune n l).N.length = c.N.length := by unfold Tr.prune; rw [upd_len]; exact clr_len _ _
  refine ⟨?_, ?_, h.one, h.big, hw, ?_, ?_, ?_, ?_, ?_⟩
  · unfold Tr.prune; rw [upd_size]; exact h.size
  · rw [hlen]; exact h.len
  · intro k hk
    have hk2 : t.there k = true ∧ k ∉ l := by
      have : (t.there k && !decide (k ∈ l)) = true := hk
      simpa using this
    obtain ⟨m1, m2, m3, m4⟩ := h.node k hk2.1
    have hp : (t.prune n l).par k = t.par k := if_neg hk2.2
    have hkk : (t.prune n l).kids k = if k = n ∨ k ∈ l then [] else t.kids k := rfl
    rw [hnd, hlen, hp, hkk]
    by_cases e : k = n
    · subst e
      rw [if_pos rfl, if_pos (.inl rfl)]
      exact ⟨m1, m2, m3, rfl⟩
    · rw [if_neg e, if_neg hk2.2, if_neg (fun h => h.elim e hk2.2)]
      exact ⟨m1, m2, m3, m4⟩
  · intro k hk
    have hk2 : t.there k = false ∨ k ∈ l := by
      have : (t.there k && !decide (k ∈ l)) = false := hk
      cases ht : t.there k with
      | false => exact .inl rfl
      | true => rw [ht] at this; right; simpa using this
    have e : k ≠ n := fun e => by subst e; rcases hk2 with h1 | h1; rw [hn] at h1; cases h1; exact hnl h1
    rw [hnd, if_neg e]
    by_cases e2 : k ∈ l
    · rw [if_pos e2]
    · rw [if_neg e2]; exact h.off k (hk2.resolve_right e2)
  · unfold Tr.prune; rw [upd_root]; exact h.root
  · intro o
    have key : ∀ x ∈ (t.prune n l).row o, x ∉ l ∧ x ∈ t.row o := by
      intro x hx
      have hth := (hw.par o x hx).1
      have : (t.there x && !decide (x ∈ l)) = true := hth
      simp at this
      refine ⟨this.2, ?_⟩
      cases o with
      | none => exact hx
      | some p =>
        have hx' : x ∈ (if p = n ∨ p ∈ l then [] else t.kids p) := hx
        split at hx'
        · cases hx'
        · exact hx'
    have hrow : (t.prune n l).row o = [] ∨ (t.prune n l).row o = t.row o := by
      cases o with
      | none => exact .inr rfl
      | some p =>
        show (if p = n ∨ p ∈ l then [] else t.kids p) = [] ∨ (if p = n ∨ p ∈ l then [] else t.kids p) = _
        split
        · exact .inl rfl
        · exact .inr rfl
    rcases hrow with h0 | h0
    · rw [h0]; trivial
    · have hl0 := h.links o
      rw [h0] at key ⊢
      refine hl0.congr fun x hx => ?_
      rw [hnd]
      by_cases e : x = n
      · subst e; rw [if_pos rfl]; exact ⟨rfl, rfl⟩
      · rw [if_neg e, if_neg (key x hx).1]; exact ⟨rfl, rfl⟩
  · show l.reverse ++ t.free = _
    rw [hlen]
    unfold Tr.prune
    rw [upd_F, h.free]
    show _ = (c.F ++ l).reverse ++ List.range' c.N.length (t.size - c.N.length)
    rw [List.reverse_append, List.append_assoc]
end
end Go.Proofs
end
section
namespace Go.Proofs
open Go.RowKit
set_option linter.unusedVariables false
set_option linter.unusedSimpArgs false

/-! ### Drop -/
/-- Children that come, one by one, into the row of p behind pv. -/
def Tr.moved (c : Tr) (p : Int) : Int → List Nat → Tr
  | _, [] => c
  | pv, k :: l => ((c.upd k fun d => { d with par := p }).join p pv (k : Nat)).moved p (k : Nat) l
theorem moved_snoc (p : Int) : ∀ (l : List Nat) (c : Tr) (pv : Int) (k : Nat), c.moved p pv (l ++ [k]) = ((c.moved p pv l).upd k fun d => { d with par := p }).join p (lastOr l pv) (k : Nat)
  | [], c, pv, k => rfl
  | a :: l, c, pv, k => moved_snoc p l _ (a : Nat) k
theorem moved_len (p : Int) : ∀ (l : List Nat) (c : Tr) (pv : Int), (c.moved p pv l).N.length = c.N.length
  | [], c, pv => rfl
  | a :: l, c, pv => by unfold Tr.moved; rw [moved_len p l, join_len, upd_len]
theorem moved_F (p : Int) : ∀ (l : List Nat) (c : Tr) (pv : Int), (c.moved p pv l).F = c.F
  | [], c, pv => rfl
  | a :: l, c, pv => by unfold Tr.moved; rw [moved_F p l, join_F, upd_F]
theorem moved_size (p : Int) : ∀ (l : List Nat) (c : Tr) (pv : Int), (c.moved p pv l).size = c.size
  | [], c, pv => rfl
  | a :: l, c, pv => by unfold Tr.moved; rw [moved_size p l, join_size, upd_size]
theorem lastI_neg {A : List Nat} : lastI A = -1 ↔ A = [] := by
  constructor
  · intro h
    rcases lastOr_mem (A := A) (x := -1) with ⟨h1, _⟩ | ⟨n, _, h1⟩
    · exact h1
    · have e : ((n : Nat) : Int) = -1 := h1.symm.trans h
      omega
  · rintro rfl; rfl
theorem lastI_eq {A : List Nat} {x : Nat} (h : lastI A = (x : Nat)) : x ∈ A := by
  rcases lastOr_mem (A := A) (x := -1) with ⟨_, h1⟩ | ⟨n, hn, h1⟩
  · have e : (-1 : Int) = (x : Nat) := h1.symm.trans h
    omega
  · have e : ((n : Nat) : Int) = (x : Nat) := h1.symm.trans h
    have : n = x := by omega
    subst this
    exact hn
theorem hdI_eq {A : List Nat} {x : Nat} (h : hdI A = (x : Nat)) : x ∈ A := by
  rcases hdOr_mem (A := A) (x := -1) with ⟨_, h1⟩ | ⟨n, hn, h1⟩
  · have e : (-1 : Int) = (x : Nat) := h1.symm.trans h
    omega
  · have e : ((n : Nat) : Int) = (x : Nat) := h1.symm.trans h
    have : n = x := by omega
    subst this
    exact hn
theorem In.last {c : Tr} {A : List Nat} (hA : ∀ x ∈ A, x < c.N.length) : In c (lastI A) := by
  rcases lastOr_mem (A := A) (x := -1) with ⟨_, h⟩ | ⟨n, hn, h⟩
  · exact .inl h
  · exact .inr ⟨n, h, hA n hn⟩
theorem In.hd {c : Tr} {A : List Nat} (hA : ∀ x ∈ A, x < c.N.length) : In c (hdI A) := by
  rcases hdOr_mem (A := A) (x := -1) with ⟨_, h⟩ | ⟨n, hn, h⟩
  · exact .inl h
  · exact .inr ⟨n, h, hA n hn⟩
/-- In the midst: K have come into the row behind `pre`. -/
structure Mv (c ci : Tr) (p : Int) (pre K : List Nat) : Prop where
  th : ∀ j : Nat, (ci.nd (j : Nat)).there = (c.nd (j : Nat)).there
  pa : ∀ j : Nat, (ci.nd (j : Nat)).par = if j ∈ K then p else (c.nd (j : Nat)).par
  ch : ∀ j : Nat, (ci.nd (j : Nat)).child = if p = (j : Nat) ∧ pre = [] then hdOr K (c.nd (j : Nat)).child else (c.nd (j : Nat)).child
  rt : ci.root = if p = -1 ∧ pre = [] then hdOr K c.root else c.root
  lk : ∃ nx, Lk ci (-1) (pre ++ K) nx
  no : ∀ j : Nat, j ∉ pre → j ∉ K → (ci.nd (j : Nat)).left = (c.nd (j : Nat)).left ∧ (ci.nd (j : Nat)).right = (c.nd (j : Nat)).right
theorem Mv.start {c : Tr} {p nx : Int} {pre : List Nat} (h : Lk c (-1) pre nx) : Mv c c p pre [] :=
  ⟨fun _ => rfl, fun _ => by simp, fun j => by simp [hdOr], by simp [hdOr], ⟨nx, by simpa using h⟩, fun _ _ _ => ⟨rfl, rfl⟩⟩
theorem Mv.step {c ci : Tr} {p : Int} {pre K : List Nat} (h : Mv c ci p pre K) (hlen : ci.N.length = c.N.length) (hp : In c p) {k : Nat} (hk : k < c.N.length) (hkp : k ∉ pre) (hkK : k ∉ K) (hl : ∀ x ∈ pre ++ K, x < c.N.length) (hn : (pre ++ K).Nodup) :
    Mv c ((ci.upd k fun d => { d with par := p }).join p (lastI (pre ++ K)) (k : Nat)) p pre (K ++ [k]) := by
  obtain ⟨nx, hlk⟩ := h.lk
  have l2 : (ci.upd k fun d => { d with par := p }).N.length = c.N.length := by rw [upd_len]; exact hlen
  have hkc : k < ci.N.length := by omega
  have hp2 : In (ci.upd k fun d => { d with par := p }) p := hp.mono l2
  have hla : In (ci.upd k fun d => { d with par := p }) (lastI (pre ++ K)) := (In.last hl).mono l2
  have hki : In (ci.upd k fun d => { d with par := p }) ((k : Nat) : Int) := .inr ⟨k, rfl, by omega⟩
  have hu : ∀ j : Nat, (ci.upd k fun d => { d with par := p }).nd (j : Nat) = if j = k then { ci.nd (k : Nat) with par := p } else ci.nd (j : Nat) := fun j => nd_upd hkc
  have hj := join_nd hp2 hla hki
  refine ⟨fun j => ?_, fun j => ?_, fun j => ?_, ?_, ?_, fun j h1 h2 => ?_⟩
  · rw [hj j, hu j]
    show (if j = k then _ else _ : Nd).there = _
    by_cases e : j = k
    · subst e; rw [if_pos rfl]; exact h.th _
    · rw [if_neg e]; exact h.th j
  · rw [hj j, hu j]
    show (if j = k then _ else _ : Nd).par = _
    by_cases e : j = k
    · subst e; rw [if_pos rfl, if_pos (by simp)]
    · rw [if_neg e, h.pa j]
      have : (j ∈ K ++ [k]) ↔ j ∈ K := by simp [e]
      simp only [this]
  · rw [hj j, hu j]
    show (if lastI (pre ++ K) = -1 ∧ p = (j : Nat) then ((k : Nat) : Int) else (if j = k then _ else _ : Nd).child) = _
    have e1 : (if j = k then { ci.nd (k : Nat) with par := p } else ci.nd (j : Nat) : Nd).child = (ci.nd (j : Nat)).child := by
      by_cases e : j = k
      · subst e; rw [if_pos rfl]
      · rw [if_neg e]
    rw [e1, h.ch j]
    by_cases e2 : p = (j : Nat) ∧ pre = []
    · rw [if_pos e2, if_pos e2, hdOr_append]
      cases K with
      | nil => rw [if_pos ⟨by rw [lastI_neg, e2.2]; rfl, e2.1⟩]; rfl
      | cons y K => rw [if_neg (fun hh => by have := lastI_neg.1 hh.1; simp at this)]; rfl
    · rw [if_neg e2, if_neg e2, if_neg (fun hh => e2 ⟨hh.2, by have := lastI_neg.1 hh.1; simp at this; exact this.1⟩)]
  · rw [join_root hp2, upd_root, h.rt]
    by_cases e2 : p = -1 ∧ pre = []
    · rw [if_pos e2, if_pos e2, hdOr_append]
      cases K with
      | nil => rw [if_pos ⟨by rw [lastI_neg, e2.2]; rfl, e2.1⟩]; rfl
      | cons y K => rw [if_neg (fun hh => by have := lastI_neg.1 hh.1; simp at this)]; rfl
    · rw [if_neg e2, if_neg e2, if_neg (fun hh => e2 ⟨hh.2, by have := lastI_neg.1 hh.1; simp at this; exact this.1⟩)]
  · refine ⟨(ci.nd (k : Nat)).right, ?_⟩
    have hlk2 : Lk (ci.upd k fun d => { d with par := p }) (-1) (pre ++ K) nx := hlk.congr fun x hx => by
      rw [hu x]
      have : x ≠ k := fun e => by subst e; rcases List.mem_append.1 hx with h1 | h1; exact hkp h1; exact hkK h1
      rw [if_neg this]; exact ⟨rfl, rfl⟩
    have hB : Lk (ci.upd k fun d => { d with par := p }) (ci.nd (k : Nat)).left [k] (ci.nd (k : Nat)).right := by
      refine ⟨?_, ?_, trivial⟩
      · rw [hu k, if_pos rfl]
      · rw [hu k, if_pos rfl]; rfl
    have := hlk2.join hB (fun h => by cases h) hp2 (fun x hx => by rw [l2]; exact hl x hx) (fun x hx => by rw [l2]; simp at hx; omega) (List.nodup_append.2 ⟨hn, by simp, fun a ha b hb e => by
      simp at hb
      subst hb
      subst e
      rcases List.mem_append.1 ha with h1 | h1
      · exact hkp h1
      · exact hkK h1⟩)
    rw [List.append_assoc] at this
    exact this
  · have hjk : j ≠ k := fun e => by subst e; exact h2 (by simp)
    have hjK : j ∉ K := fun e => h2 (by simp [e])
    rw [hj j, hu j, if_neg hjk]
    have n1 : ¬ (((k : Nat) : Int) = (j : Nat)) := by omega
    have n2 : ¬ (lastI (pre ++ K) = (j : Nat)) := fun e => by
      rcases List.mem_append.1 (lastI_eq e) with h3 | h3
      · exact h1 h3
      · exact hjK h3
    simp only [if_neg n1, if_neg n2]
    exact h.no j h1 hjK
theorem Mv.all {c : Tr} {p nx : Int} {pre : List Nat} (hp : In c p) (h0 : Lk c (-1) pre nx) (hpl : ∀ x ∈ pre, x < c.N.length) : ∀ (m : Nat) (K : List Nat), K.length = m → (∀ x ∈ K, x < c.N.length) → (pre ++ K).Nodup → Mv c (c.moved p (lastI pre) K) p pre K := by
  intro m
  induction m with
  | zero =>
    intro K hK _ _
    have : K = [] := List.eq_nil_of_length_eq_zero hK
    subst this
    exact Mv.start h0
  | succ m ih =>
    intro K hK hl hn
    rcases List.eq_nil_or_concat K with rfl | ⟨K', k, rfl⟩
    · cases hK
    · rw [List.concat_eq_append] at *
      simp at hK
      have hn' : (pre ++ K').Nodup := by rw [← List.append_assoc] at hn; exact (List.nodup_append.1 hn).1
      have hd := (List.nodup_append.1 (by rw [← List.append_assoc] at hn; exact hn)).2.2
      have := ih K' hK (fun x hx => hl x (by simp [hx])) hn'
      rw [moved_snoc]
      have h3 := this.step (k := k) (moved_len ..) hp (hl k (by simp)) (fun h => hd k (by simp [h]) k (by simp) rfl) (fun h => hd k (by simp [h]) k (by simp) rfl) (fun x hx => by
        rcases List.mem_append.1 hx with h | h
        · exact hpl x h
        · exact hl x (by simp [h])) hn'
      have e : lastI (pre ++ K') = lastOr K' (lastI pre) := lastOr_append ..
      rw [e] at h3
      exact h3
theorem head_eq {pre K post : List Nat} {n : Nat} {x : Int} {Q : Prop} [Decidable Q] (hx : Q → x = hdI (pre ++ n :: post)) :
    (if lastI (pre ++ K) = -1 ∧ Q then hdI post else if Q ∧ pre = [] then hdOr K x else x) = if Q then hdI ((pre ++ K) ++ post) else x := by
  by_cases hQ : Q
  · rw [if_pos hQ]
    cases pre with
    | nil =>
      cases K with
      | nil => rw [if_pos ⟨rfl, hQ⟩]; rfl
      | cons a K => rw [if_neg (fun hh => by have := lastI_neg.1 hh.1; cases this), if_pos ⟨hQ, rfl⟩]; rfl
    | cons a pre => rw [if_neg (fun hh => by have := lastI_neg.1 hh.1; cases this), if_neg (fun hh => by cases hh.2), hx hQ]; rfl
  · rw [if_neg hQ, if_neg (fun hh => hQ hh.2), if_neg (fun hh => hQ hh.1)]
/-- What Drop makes of the forest. -/
def Tr.drop (c : Tr) (n : Nat) (ks : List Nat) : Tr :=
  let d := c.nd (n : Nat)
  let c5 := (c.moved d.par d.left ks).join d.par (lastOr ks d.left) d.right
  { c5 with N := clr c5.N [n], F := c5.F ++ [n] }
theorem Sim.drop {c : Tr} {t : Fo} (h : Sim c t) {n : Nat} (hn : t.there n = true) : Sim (c.drop n (t.kids n)) (t.drop n) := by
  obtain ⟨n1, n2, n3, n4⟩ := h.node n hn
  have hs := h.wf.self_par hn
  have hmem := h.wf.mem n hn
  obtain ⟨P, hP⟩ : ∃ P, P = t.par n := ⟨_, rfl⟩
  rw [← hP] at hmem n3
  obtain ⟨pre, post, hR⟩ := List.append_of_mem hmem
  have hnR := h.wf.nodup P
  rw [hR] at hnR
  obtain ⟨np, nnp, npp⟩ := List.nodup_append.1 hnR
  obtain ⟨nnpost, npost⟩ := List.nodup_cons.1 nnp
  have hnpre : n ∉ pre := fun hh => npp n hh n (by simp) rfl
  have hoP : ∀ p, P = some p → t.there p = true := fun p e => h.wf.up hn (by rw [← hP]; exact e)
  have hp : In c (oI P) := h.in_ hoP
  have hlk := h.links P
  rw [hR, Lk.append] at hlk
  obtain ⟨k1, k2, k3, k4⟩ := hlk
  have hkid : ∀ k, k ∈ t.kids n → k ≠ n ∧ t.there k = true ∧ t.par k = some n := fun k hk => ⟨fun e => by subst e; exact (Anc.kid hk).irrefl h.wf, (h.wf.kid hk).1, (h.wf.kid hk).2.1⟩
  have hrow : ∀ x, x ∈ pre ∨ x ∈ post → t.there x = true ∧ t.par x = P ∧ x ≠ n := fun x hx => by
    have hm : x ∈ t.row P := by rw [hR]; rcases hx with hx | hx <;> simp [hx]
    obtain ⟨q1, q2⟩ := h.wf.par P x hm
    exact ⟨q1, q2, fun e => by subst e; rcases hx with hx | hx; exact hnpre hx; exact nnpost hx⟩
  have hkr : ∀ k ∈ t.kids n, k ∉ pre ∧ k ∉ post := fun k hk => by
    have hpk := (hkid k hk).2.2
    constructor <;> intro hm
    · have := (hrow k (.inl hm)).2.1
      rw [hpk] at this
      exact hs (by rw [← hP]; exact this.symm)
    · have := (hrow k (.inr hm)).2.1
      rw [hpk] at this
      exact hs (by rw [← hP]; exact this.symm)
  have ltr : ∀ x, x ∈ pre ∨ x ∈ post → x < c.N.length := fun x hx => (h.node x (hrow x hx).1).1
  have ltk : ∀ x ∈ t.kids n, x < c.N.length := fun x hx => (h.node x (hkid x hx).2.1).1
  have hndk : (t.kids n).Nodup := h.wf.nodup (some n)
  have hnpk : (pre ++ t.kids n).Nodup := List.nodup_append.2 ⟨np, hndk, fun a ha b hb e => by subst e; exact (hkr a hb).1 ha⟩
  have hM := Mv.all hp k1 (fun x hx => ltr x (.inl hx)) (t.kids n).length (t.kids n) rfl ltk hnpk
  -- the whole
  obtain ⟨K, hK⟩ : ∃ K, K = t.kids n := ⟨_, rfl⟩
  rw [← hK] at hM hnpk ltk hkr hkid hndk ⊢
  obtain ⟨nx, hlM⟩ := hM.lk
  obtain ⟨ci, hci⟩ : ∃ ci, ci = c.moved (oI P) (lastI pre) K := ⟨_, rfl⟩
  rw [← hci] at hM hlM
  have lci : ci.N.length = c.N.length := by rw [hci]; exact moved_len ..
  have hnK : n ∉ K := fun hm => (hkid n hm).1 rfl
  have hpostci : Lk ci (n : Nat) post (-1) := k4.congr fun x hx => hM.no x (fun hh => npp x hh x (by simp [hx]) rfl) (fun hh => (hkr x hh).2 hx)
  have hnall : ((pre ++ K) ++ post).Nodup := List.nodup_append.2 ⟨hnpk, npost, fun a ha b hb e => by
    subst e
    rcases List.mem_append.1 ha with h1 | h1
    · exact npp a h1 a (by simp [hb]) rfl
    · exact (hkr a h1).2 hb⟩
  have hl5 := hlM.join hpostci (fun _ => rfl) (hp.mono lci) (fun x hx => by
    rw [lci]
    rcases List.mem_append.1 hx with h1 | h1
    · exact ltr x (.inl h1)
    · exact ltk x h1) (fun x hx => by rw [lci]; exact ltr x (.inr hx)) hnall
  have inl : In ci (lastI (pre ++ K)) := (In.last (fun x hx => by
    rcases List.mem_append.1 hx with h1 | h1
    · exact ltr x (.inl h1)
    · exact ltk x h1)).mono lci
  have inh : In ci (hdI post) := (In.hd (fun x hx => ltr x (.inr hx))).mono lci
  have hj5 := join_nd (hp.mono lci) inl inh
  have hr5 := join_root (l := lastI (pre ++ K)) (r := hdI post) (hp.mono lci)
  obtain ⟨c5, hc5⟩ : ∃ c5, c5 = ci.join (oI P) (lastI (pre ++ K)) (hdI post) := ⟨_, rfl⟩
  rw [← hc5] at hl5 hj5 hr5
  have l5 : c5.N.length = c.N.length := by rw [hc5, join_len]; exact lci
  have hD : c.drop n K = { c5 with N := clr c5.N [n], F := c5.F ++ [n] } := by
    unfold Tr.drop
    have e1 : (c.nd (n : Nat)).left = lastI pre := k2
    have e2 : (c.nd (n : Nat)).right = hdI post := k3
    simp only [n3, e1, e2]
    have e3 : lastI (pre ++ K) = lastOr K (lastI pre) := lastOr_append ..
    rw [hc5, hci, e3]
  have hndD : ∀ j : Nat, (c.drop n K).nd (j : Nat) = if j = n then nd0 else c5.nd (j : Nat) := fun j => by
    rw [hD, nd_clr]
    simp only [List.mem_singleton]
  have hfm : (t.row P).flatMap (fun i => if i = n then t.kids n else [i]) = (pre ++ K) ++ post := by
    have one : ∀ l : List Nat, n ∉ l → l.flatMap (fun i => if i = n then t.kids n else [i]) = l := by
      intro l
      induction l with
      | nil => intro _; rfl
      | cons a l ih =>
        intro hh
        rw [List.flatMap_cons, ih (fun h => hh (by simp [h])), if_neg (fun e => hh (by simp [e]))]
        rfl
    rw [hR, List.flatMap_append, List.flatMap_cons, one pre hnpre, one post nnpost, if_pos rfl, ← hK, List.append_assoc]
  have hrowD : ∀ o, (t.drop n).row o = if o = P then (pre ++ K) ++ post else if o = some n then [] else t.row o := fun o => by
    rw [Fo.drop_row, ← hP, hfm]
  have hPn : P ≠ some n := by rw [hP]; exact hs
  refine ⟨?_, ?_, ?_, ?_, h.wf.drop hn, ?_, ?_, ?_, ?_, ?_⟩
  · rw [hD, Fo.drop_size]
    show c5.size = _
    rw [hc5, join_size, hci, moved_size]; exact h.size
  · rw [hD, Fo.drop_size]
    show (clr c5.N [n]).length ≤ _
    rw [clr_len, l5]; exact h.len
  · rw [Fo.drop_size]; exact h.one
  · rw [Fo.drop_size]; exact h.big
  · intro k hk
    have hk2 : k ≠ n ∧ t.there k = true := by
      rw [Fo.drop_there] at hk
      by_cases e : k = n
      · subst e; rw [upd_same] at hk; cases hk
      · rw [upd_other _ _ e] at hk; exact ⟨e, hk⟩
    obtain ⟨m1, m2, m3, m4⟩ := h.node k hk2.2
    have hlenD : (c.drop n K).N.length = c.N.length := by rw [hD]; show (clr c5.N [n]).length = _; rw [clr_len]; exact l5
    rw [hndD, if_neg hk2.1, hlenD, hj5 k, Fo.drop_par, if_neg hk2.1, ← hK, ← hP]
    refine ⟨m1, ?_, ?_, ?_⟩
    · show (ci.nd (k : Nat)).there = true
      rw [hM.th]; exact m2
    · show (ci.nd (k : Nat)).par = _
      rw [hM.pa]
      split
      · rfl
      · exact m3
    · show (if lastI (pre ++ K) = -1 ∧ oI P = (k : Nat) then hdI post else (ci.nd (k : Nat)).child) = hdI ((t.drop n).row (some k))
      rw [hrowD, hM.ch, head_eq (n := n)]
      · by_cases e : some k = P
        · have eP : oI P = (k : Nat) := by rw [← e]; rfl
          rw [if_pos e, if_pos eP]
        · have eP : ¬ (oI P = (k : Nat)) := fun e2 => e (by
            cases hPP : P with
            | none => rw [hPP] at e2; exact absurd e2 (by show ¬ ((-1 : Int) = _); omega)
            | some p =>
              rw [hPP] at e2
              have : ((p : Nat) : Int) = (k : Nat) := e2
              exact congrArg some (by omega))
          rw [if_neg e, if_neg (fun e2 => hk2.1 (Option.some.inj e2)), if_neg eP]
          exact m4
      · intro eP
        have e : some k = P := by
          cases hPP : P with
          | none => rw [hPP] at eP; exact absurd eP (by show ¬ ((-1 : Int) = _); omega)
          | some p =>
            rw [hPP] at eP
            have : ((p : Nat) : Int) = (k : Nat) := eP
            exact congrArg some (by omega)
        rw [m4]
        have : t.kids k = t.row P := by rw [← e]; rfl
        rw [this, hR]
  · intro k hk
    rw [hndD]
    by_cases e : k = n
    · rw [if_pos e]
    · rw [if_neg e]
      rw [Fo.drop_there, upd_other _ _ e] at hk
      have hkK : k ∉ K := fun hm => by have := (hkid k hm).2.1; rw [hk] at this; cases this
      have hkpre : k ∉ pre := fun hm => by have := (hrow k (.inl hm)).1; rw [hk] at this; cases this
      have hkpost : k ∉ post := fun hm => by have := (hrow k (.inr hm)).1; rw [hk] at this; cases this
      have eP : ¬ (oI P = (k : Nat)) := fun e2 => by
        cases hPP : P with
        | none => rw [hPP] at e2; exact absurd e2 (by show ¬ ((-1 : Int) = _); omega)
        | some p =>
          rw [hPP] at e2
          have e3 : ((p : Nat) : Int) = (k : Nat) := e2
          have e4 : p = k := by omega
          have := hoP p hPP
          rw [e4, hk] at this; cases this
      have n1 : ¬ (hdI post = (k : Nat)) := fun e => hkpost (hdI_eq e)
      have n2 : ¬ (lastI (pre ++ K) = (k : Nat)) := fun e => by
        rcases List.mem_append.1 (lastI_eq e) with h1 | h1
        · exact hkpre h1
        · exact hkK h1
      have hno := hM.no k hkpre hkK
      have hth := hM.th k
      have hpa := hM.pa k
      have hch := hM.ch k
      rw [if_neg hkK] at hpa
      rw [if_neg (fun hh => eP hh.1)] at hch
      rw [hj5 k, if_neg n1, if_neg n2, if_neg (fun hh => eP hh.2), hno.1, hno.2, hth, hpa, hch, h.off k hk]
  · have e0 : (c.drop n K).root = c5.root := by rw [hD]
    rw [e0, hr5, hM.rt, head_eq (n := n)]
    · show _ = hdI ((t.drop n).row none)
      rw [hrowD]
      by_cases e : (none : Option Nat) = P
      · have eP : oI P = -1 := by rw [← e]; rfl
        rw [if_pos e, if_pos eP]
      · have eP : ¬ (oI P = -1) := fun e2 => e (by
          cases hPP : P with
          | none => rfl
          | some p =>
            rw [hPP] at e2
            have : ((p : Nat) : Int) = -1 := e2
            omega)
        rw [if_neg e, if_neg (show ¬ ((none : Option Nat) = some n) by simp), if_neg eP]
        exact h.root
    · intro eP
      have e : none = P := by
        cases hPP : P with
        | none => rfl
        | some p =>
          rw [hPP] at eP
          have : ((p : Nat) : Int) = -1 := eP
          omega
      rw [h.root]
      have : t.roots = t.row P := by rw [← e]; rfl
      rw [this, hR]
  · intro o
    rw [hrowD]
    by_cases e : o = P
    · rw [if_pos e]
      refine hl5.congr fun x hx => ?_
      rw [hndD, if_neg]
      · exact ⟨rfl, rfl⟩
      · intro e2
        subst e2
        rcases List.mem_append.1 hx with h1 | h1
        · rcases List.mem_append.1 h1 with h2 | h2
          · exact hnpre h2
          · exact hnK h2
        · exact nnpost h1
    · rw [if_neg e]
      by_cases e2 : o = some n
      · rw [if_pos e2]; trivial
      · rw [if_neg e2]
        refine (h.links o).congr fun x hx => ?_
        obtain ⟨q1, q2⟩ := h.wf.par o x hx
        have hxn : x ≠ n := fun e3 => by subst e3; exact e (by rw [← q2, hP])
        have hxK : x ∉ K := fun hm => e2 (by rw [← q2, (hkid x hm).2.2])
        have hxpre : x ∉ pre := fun hm => e (by rw [← q2, (hrow x (.inl hm)).2.1])
        have hxpost : x ∉ post := fun hm => e (by rw [← q2, (hrow x (.inr hm)).2.1])
        have n1 : ¬ (hdI post = (x : Nat)) := fun e => hxpost (hdI_eq e)
        have n2 : ¬ (lastI (pre ++ K) = (x : Nat)) := fun e => by
          rcases List.mem_append.1 (lastI_eq e) with h1 | h1
          · exact hxpre h1
          · exact hxK h1
        have hno := hM.no x hxpre hxK
        rw [hndD, if_neg hxn, hj5 x]
        simp only [if_neg n1, if_neg n2]
        exact hno
  · rw [Fo.drop_free, Fo.drop_size, h.free, hD]
    show _ = (c5.F ++ [n]).reverse ++ List.range' (clr c5.N [n]).length (t.size - (clr c5.N [n]).length)
    rw [clr_len, l5, hc5, join_F, hci, moved_F]
    simp
end Go.Proofs
end
