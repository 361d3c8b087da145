import Derived.Test.YtncpeemghnmakaaM10
import Derived.Deep.RegionHeldLaw
section
namespace Go.Proofs
open Go.RowKit
set_option linter.unusedVariables false
set_option linter.unusedSimpArgs false

/-! ### What is kept by what is done -/
theorem Rel.new (gs slots nodes : Nat) : Rel (sp0 gs slots nodes) (rf0 gs slots nodes) (fun _ => 0) :=
  ⟨rfl, rfl, rfl, List.nodup_nil, fun x => ⟨(fun h => nomatch h), (fun ⟨n, hn, _⟩ => nomatch hn)⟩, (fun n m hn => nomatch hn), (fun n hn => nomatch hn)⟩
def parN (id : Nat → Nat) (o : Option Nat) : Nat := match o with | some q => id q | none => 0
section
variable {s : Sp} {r : Rf} {id : Nat → Nat}
theorem Rel.add (h : Rel s r id) (hw : s.WF) (ht : s.t.WF) (hlt : s.t.len < s.t.size) {o : Option Nat} (ho : ∀ q, o = some q → s.t.there q = true) (p : Pt) (c : Cp) :
    ∃ id', Rel (s.add o p c) (r.putR (parN id o) p c) id' := by
  have hfr := Fo.free_cons ht hlt
  obtain ⟨a, hA⟩ : ∃ a, a = s.t.free.headD 0 := ⟨_, rfl⟩
  obtain ⟨R, hR⟩ : ∃ r, r = s.t.free.tail := ⟨_, rfl⟩
  unfold Sp.add
  rw [← hA, ← hR] at hfr ⊢
  have hfa := (ht.frees.2 a).1 (by rw [hfr]; simp)
  have hal : a < s.H.length := by rw [hw.len]; exact hfa.1
  have hne : ∀ n, s.t.there n = true → n ≠ a := fun n hn e => by rw [e, hfa.2] at hn; cases hn
  have hhd : ∀ k, hdAt (s.H.set a ⟨p, c⟩) k = if k = a then ⟨p, c⟩ else hdAt s.H k := fun k => hdAt_set _ _ _ _ hal
  have hth : ∀ n, (s.t.addAt o a R).there n = true ↔ n = a ∨ s.t.there n = true := fun n => by
    rw [Fo.addAt_there]
    by_cases e : n = a
    · subst e; rw [upd_same]; simp
    · rw [upd_other _ _ e]; simp [e]
  obtain ⟨s', hs'⟩ : ∃ s' : Sp, s' = { s with t := s.t.addAt o a R, f := set' s.f p a, H := s.H.set a ⟨p, c⟩ } := ⟨_, rfl⟩
  have e1 : ∀ n, s.t.there n = true → Go.Proofs.ent s' (upd id a (r.came + 1)) n = Go.Proofs.ent s id n := fun n hn => by
    have q1 : s'.hd n = s.hd n := by rw [hs', Sp.hd_eq]; show hdAt (s.H.set a ⟨p, c⟩) n = _; rw [hhd, if_neg (hne n hn)]; rfl
    have q2 : parId s' (upd id a (r.came + 1)) n = parId s id n := by
      unfold parId
      have : s'.t.par n = s.t.par n := by rw [hs']; show (s.t.addAt o a R).par n = _; rw [Fo.addAt_par, upd_other _ _ (hne n hn)]
      rw [this]
      cases hp : s.t.par n with
      | none => rfl
      | some q => exact upd_other _ _ (hne q (ht.up hn hp))
    unfold Go.Proofs.ent
    rw [q1, q2, upd_other _ _ (hne n hn)]
  have e2 : Go.Proofs.ent s' (upd id a (r.came + 1)) a = ⟨r.came + 1, parN id o, p.g, p.s, c⟩ := by
    have q1 : s'.hd a = ⟨p, c⟩ := by rw [hs', Sp.hd_eq]; show hdAt (s.H.set a ⟨p, c⟩) a = _; rw [hhd, if_pos rfl]
    have q2 : parId s' (upd id a (r.came + 1)) a = parN id o := by
      unfold parId
      have : s'.t.par a = o := by rw [hs']; show (s.t.addAt o a R).par a = _; rw [Fo.addAt_par, upd_same]
      rw [this]
      cases o with
      | none => rfl
      | some q => exact upd_other _ _ (hne q (ho q rfl))
    unfold Go.Proofs.ent
    rw [q1, q2, upd_same]
  have hth' : ∀ n, s'.t.there n = true ↔ n = a ∨ s.t.there n = true := fun n => by rw [hs']; exact hth n
  have hidu : ∀ n, s.t.there n = true → upd id a (r.came + 1) n = id n := fun n hn => upd_other _ _ (hne n hn)
  refine ⟨upd id a (r.came + 1), ?_⟩
  rw [← hs']
  refine ⟨by rw [hs']; exact h.gs, by rw [hs']; exact h.slots, by rw [hs']; show r.nodes = (s.t.addAt o a R).size; rw [Fo.addAt_size]; exact h.nodes, ?_, fun x => ?_, fun n m hn hm e => ?_, fun n hn => ?_⟩
  · show ((r.L ++ [(⟨r.came + 1, parN id o, p.g, p.s, c⟩ : On)]).map On.id).Nodup
    rw [List.map_append, List.nodup_append]
    refine ⟨h.nodup, by simp, fun x hx y hy e => ?_⟩
    simp at hy
    obtain ⟨z, hz, rfl⟩ := List.mem_map.1 hx
    obtain ⟨n, hn, rfl⟩ := (h.mem z).1 hz
    have := (h.pos n hn).2
    have e3 : id n = y := e
    omega
  · show x ∈ r.L ++ [(⟨r.came + 1, parN id o, p.g, p.s, c⟩ : On)] ↔ _
    rw [List.mem_append, List.mem_singleton, ← e2]
    constructor
    · rintro (hx | rfl)
      · obtain ⟨n, hn, rfl⟩ := (h.mem x).1 hx
        exact ⟨n, (hth' n).2 (.inr hn), (e1 n hn).symm⟩
      · exact ⟨a, (hth' a).2 (.inl rfl), rfl⟩
    · rintro ⟨n, hn, rfl⟩
      rcases (hth' n).1 hn with rfl | hn
      · exact .inr rfl
      · rw [e1 n hn]; exact .inl (h.ent hn)
  · rcases (hth' n).1 hn with rfl | hn
    · rcases (hth' m).1 hm with rfl | hm
      · rfl
      · rw [upd_same, hidu m hm] at e; have := (h.pos m hm).2; omega
    · rcases (hth' m).1 hm with rfl | hm
      · rw [upd_same, hidu n hn] at e; have := (h.pos n hn).2; omega
      · rw [hidu n hn, hidu m hm] at e; exact h.inj n m hn hm e
  · show 1 ≤ upd id a (r.came + 1) n ∧ upd id a (r.came + 1) n ≤ r.came + 1
    rcases (hth' n).1 hn with rfl | hn
    · rw [upd_same]; omega
    · rw [hidu n hn]; have := h.pos n hn; omega
theorem Rel.drop (h : Rel s r id) (hw : s.WF) (ht : s.t.WF) {n : Nat} (hn : s.t.there n = true) : Rel (s.drop n) { r with L := delL (Go.Proofs.ent s id n) r.L } id := by
  have hnl := hw.lt ht hn
  have hhd : ∀ k, k ≠ n → (s.drop n).hd k = s.hd k := fun k hk => by
    rw [Sp.hd_eq, Sp.hd_eq]
    show hdAt (s.H.set n hd0) k = _
    rw [hdAt_set _ _ _ _ hnl, if_neg hk]
  have hth : ∀ k, (s.drop n).t.there k = true ↔ k ≠ n ∧ s.t.there k = true := fun k => by
    show (s.t.drop n).there k = true ↔ _
    rw [Fo.drop_there]
    by_cases e : k = n
    · subst e; rw [upd_same]; simp
    · rw [upd_other _ _ e]; simp [e]
  have hrep : ∀ k, s.t.there k = true → k ≠ n → (Go.Proofs.ent s id n).rep (Go.Proofs.ent s id k) = Go.Proofs.ent (s.drop n) id k := fun k hk hkn => by
    have hpar : (s.drop n).t.par k = if k ∈ s.t.kids n then s.t.par n else s.t.par k := by
      show (s.t.drop n).par k = _
      rw [Fo.drop_par, if_neg hkn]
    have hpid : parId s id k = id n ↔ k ∈ s.t.kids n := by
      unfold parId
      cases hp : s.t.par k with
      | none =>
        simp only
        constructor
        · intro e; have := (h.pos n hn).1; omega
        · intro hc; rw [(ht.kid hc).2.1] at hp; cases hp
      | some q =>
        simp only
        constructor
        · intro e
          have := h.inj q n (ht.up hk hp) hn e
          subst this
          have := ht.mem k hk
          rw [hp] at this
          exact this
        · intro hc; rw [(ht.kid hc).2.1] at hp; cases hp; rfl
    unfold On.rep
    by_cases hc : k ∈ s.t.kids n
    · rw [if_pos (show (Go.Proofs.ent s id k).par = (Go.Proofs.ent s id n).id from hpid.2 hc)]
      have : parId (s.drop n) id k = parId s id n := by unfold parId; rw [hpar, if_pos hc]
      unfold Go.Proofs.ent
      rw [this, hhd k hkn]
    · rw [if_neg (show ¬ (Go.Proofs.ent s id k).par = (Go.Proofs.ent s id n).id from fun e => hc (hpid.1 e))]
      have : parId (s.drop n) id k = parId s id k := by unfold parId; rw [hpar, if_neg hc]
      unfold Go.Proofs.ent
      rw [this, hhd k hkn]
  have hrid : ∀ (x y : On), (x.rep y).id = y.id := fun x y => by unfold On.rep; split <;> rfl
  refine ⟨h.gs, h.slots, by show r.nodes = (s.t.drop n).size; rw [Fo.drop_size]; exact h.nodes, ?_, fun x => ?_, fun k m hk hm e => h.inj k m ((hth k).1 hk).2 ((hth m).1 hm).2 e, fun k hk => h.pos k ((hth k).1 hk).2⟩
  · show ((delL (Go.Proofs.ent s id n) r.L).map On.id).Nodup
    unfold delL
    have h1 : (((r.L.map (Go.Proofs.ent s id n).rep).filter fun y => decide (y.id ≠ (Go.Proofs.ent s id n).id)).map On.id).Sublist ((r.L.map (Go.Proofs.ent s id n).rep).map On.id) := List.filter_sublist.map _
    refine h1.nodup ?_
    rw [List.map_map]
    have : (On.id ∘ (Go.Proofs.ent s id n).rep) = On.id := funext fun y => hrid _ y
    rw [this]
    exact h.nodup
  · show x ∈ delL (Go.Proofs.ent s id n) r.L ↔ _
    unfold delL
    rw [List.mem_filter, List.mem_map, decide_eq_true_iff]
    constructor
    · rintro ⟨⟨y, hy, rfl⟩, hx⟩
      obtain ⟨k, hk, rfl⟩ := (h.mem y).1 hy
      rw [hrid] at hx
      have hkn : k ≠ n := fun e => hx (by rw [e])
      exact ⟨k, (hth k).2 ⟨hkn, hk⟩, hrep k hk hkn⟩
    · rintro ⟨k, hk, rfl⟩
      obtain ⟨k1, k2⟩ := (hth k).1 hk
      exact ⟨⟨_, h.ent k2, hrep k k2 k1⟩, fun e => k1 (h.inj k n k2 hn e)⟩
theorem mem_set_iff {α : Type} {l : List α} {i : Nat} (hi : i < l.length) (v y : α) : y ∈ l.set i v ↔ y = v ∨ ∃ j, j ≠ i ∧ l[j]? = some y := by
  rw [List.mem_iff_getElem?]
  constructor
  · rintro ⟨j, hj⟩
    rw [List.getElem?_set] at hj
    by_cases e : i = j
    · rw [if_pos e, if_pos hi] at hj
      exact .inl (Option.some.inj hj).symm
    · rw [if_neg e] at hj
      exact .inr ⟨j, fun e2 => e e2.symm, hj⟩
  · rintro (rfl | ⟨j, hj, hy⟩)
    · exact ⟨i, by rw [List.getElem?_set, if_pos rfl, if_pos hi]⟩
    · exact ⟨j, by rw [List.getElem?_set, if_neg (fun e => hj e.symm)]; exact hy⟩
theorem Rel.move (h : Rel s r id) (hw : s.WF) (ht : s.t.WF) {p q : Pt} {n : Nat} (hf : s.f p = some n) (hpq : q.g = p.g) : Rel (s.move n q) (r.mv p q) id := by
  obtain ⟨hn, hnp⟩ := hw.back p n hf
  have hnl := hw.lt ht hn
  have hat : r.atO p = some (Go.Proofs.ent s id n) := by rw [h.atO hw, hf]; rfl
  have hhd : ∀ k, (s.move n q).hd k = if k = n then ⟨q, (s.hd n).cap⟩ else s.hd k := fun k => by
    rw [Sp.hd_eq, Sp.hd_eq]
    show hdAt (s.H.set n ⟨q, (s.hd n).cap⟩) k = _
    rw [hdAt_set _ _ _ _ hnl]
    rfl
  have hfd : r.L[r.fd p]? = some (Go.Proofs.ent s id n) := hat
  have hlt := (List.getElem?_eq_some_iff.1 hfd).1
  have e1 : ∀ k, k ≠ n → Go.Proofs.ent (s.move n q) id k = Go.Proofs.ent s id k := fun k hk => by
    unfold Go.Proofs.ent
    rw [hhd, if_neg hk]
    rfl
  have e2 : Go.Proofs.ent (s.move n q) id n = { Go.Proofs.ent s id n with s := q.s } := by
    unfold Go.Proofs.ent
    rw [hhd, if_pos rfl]
    show (⟨id n, parId s id n, q.g, q.s, (s.hd n).cap⟩ : On) = ⟨id n, parId s id n, (s.hd n).p.g, q.s, (s.hd n).cap⟩
    rw [hnp, hpq]
  have hL : (r.mv p q).L = r.L.set (r.fd p) (Go.Proofs.ent (s.move n q) id n) := by
    show (match r.atO p with | some x => r.L.set (r.fd p) { x with s := q.s } | none => r.L) = _
    rw [hat, e2]
  refine ⟨h.gs, h.slots, h.nodes, ?_, fun x => ?_, h.inj, h.pos⟩
  · have : (r.mv p q).L.map On.id = r.L.map On.id := by
      rw [hL, List.map_set]
      refine List.ext_getElem? fun j => ?_
      rw [List.getElem?_set]
      split
      · rename_i e
        subst e
        rw [if_pos (by rw [List.length_map]; exact hlt), List.getElem?_map, hfd]
        rfl
      · rfl
    rw [this]
    exact h.nodup
  · rw [hL, mem_set_iff hlt]
    constructor
    · rintro (rfl | ⟨j, hj, hx⟩)
      · exact ⟨n, hn, rfl⟩
      · obtain ⟨k, hk, rfl⟩ := (h.mem x).1 (List.mem_of_getElem? hx)
        refine ⟨k, hk, (e1 k (fun e => hj ?_)).symm⟩
        subst e
        have h1 : (r.L)[j]? = (r.L)[r.fd p]? := by rw [hx, hfd]
        have h2 : (r.L.map On.id)[j]? = (r.L.map On.id)[r.fd p]? := by rw [List.getElem?_map, List.getElem?_map, h1]
        exact (List.getElem?_inj (by rw [List.length_map]; exact (List.getElem?_eq_some_iff.1 hx).1) h.nodup).1 h2
    · rintro ⟨k, hk, rfl⟩
      by_cases e : k = n
      · left; rw [e]
      · right
        obtain ⟨j, hj⟩ := List.getElem?_of_mem (h.ent hk)
        refine ⟨j, fun e3 => e ?_, by rw [e1 k e]; exact hj⟩
        rw [e3, hfd] at hj
        exact (h.inj k n hk hn (congrArg On.id (Option.some.inj hj).symm))
def abvL (id : Nat → Nat) (l : List Nat) (y : On) : Bool := decide (y.id ∈ l.map id)
theorem Rel.abv (h : Rel s r id) {l : List Nat} (hl : ∀ k ∈ l, s.t.there k = true) {n : Nat} (hn : s.t.there n = true) : abvL id l (Go.Proofs.ent s id n) = true ↔ n ∈ l := by
  unfold abvL
  rw [decide_eq_true_iff, List.mem_map]
  constructor
  · rintro ⟨k, hk, e⟩
    rw [← h.inj k n (hl k hk) hn e]
    exact hk
  · intro hk; exact ⟨n, hk, rfl⟩
theorem Rel.tells (h : Rel s r id) (ht : s.t.WF) {n : Nat} (hn : s.t.there n = true) {l : List Nat} (hl : Pre s.t (s.t.kids n) l) : r.Tells (id n) (abvL id l) := fun y hy => by
  obtain ⟨k, hk, rfl⟩ := (h.mem y).1 hy
  obtain ⟨c, h1, h2, h3⟩ := h.chainL ht hk
  refine ⟨c, h1, h2, ?_⟩
  rw [h3 n hn, h.abv (fun j hj => (((hl.desc j).1 hj).there ht).2) hk]
  exact hl.desc k
theorem Rel.prune (h : Rel s r id) (hw : s.WF) (ht : s.t.WF) {n : Nat} (hn : s.t.there n = true) {l : List Nat} (hl : Pre s.t (s.t.kids n) l) : Rel (s.prune n l) (r.left (abvL id l)) id := by
  obtain ⟨k1, k2, k3⟩ := hw.lv ht hl
  have hlth : ∀ k ∈ l, s.t.there k = true := fun j hj => (((hl.desc j).1 hj).there ht).2
  have hth : ∀ k, (s.prune n l).t.there k = true ↔ s.t.there k = true ∧ k ∉ l := fun k => by
    show (s.t.there k && !decide (k ∈ l)) = true ↔ _
    rw [Bool.and_eq_true, Bool.not_eq_true', decide_eq_false_iff_not]
  have e1 : ∀ k, k ∉ l → Go.Proofs.ent (s.prune n l) id k = Go.Proofs.ent s id k := fun k hk => by
    have hp : parId (s.prune n l) id k = parId s id k := by
      unfold parId
      have : (s.prune n l).t.par k = s.t.par k := by show (if k ∈ l then none else s.t.par k) = _; rw [if_neg hk]
      rw [this]
    unfold Go.Proofs.ent
    rw [hp, k2, if_neg hk]
  refine ⟨h.gs, h.slots, h.nodes, ?_, fun x => ?_, fun k m hk hm e => h.inj k m ((hth k).1 hk).1 ((hth m).1 hm).1 e, fun k hk => h.pos k ((hth k).1 hk).1⟩
  · exact (List.filter_sublist.map _).nodup h.nodup
  · show x ∈ r.L.filter (fun y => !abvL id l y) ↔ _
    rw [List.mem_filter]
    constructor
    · rintro ⟨hx, ha⟩
      obtain ⟨k, hk, rfl⟩ := (h.mem x).1 hx
      have hkl : k ∉ l := fun hm => by rw [(h.abv hlth hk).2 hm] at ha; cases ha
      exact ⟨k, (hth k).2 ⟨hk, hkl⟩, (e1 k hkl).symm⟩
    · rintro ⟨k, hk, rfl⟩
      obtain ⟨q1, q2⟩ := (hth k).1 hk
      rw [e1 k q2]
      refine ⟨h.ent q1, ?_⟩
      cases ha : abvL id l (Go.Proofs.ent s id k) with
      | false => rfl
      | true => exact absurd ((h.abv hlth q1).1 ha) q2
/-- How many went. -/
theorem Rel.went (h : Rel s r id) (hw : s.WF) (ht : s.t.WF) {n : Nat} (hn : s.t.there n = true) {l : List Nat} (hl : Pre s.t (s.t.kids n) l) : r.L.length - (r.left (abvL id l)).L.length = l.length := by
  have hlth : ∀ k ∈ l, s.t.there k = true := fun j hj => (((hl.desc j).1 hj).there ht).2
  have h1 : r.L.length = (r.left (abvL id l)).L.length + (r.L.filter (abvL id l)).length := by
    have key : ∀ (L : List On), L.length = (L.filter fun y => !abvL id l y).length + (L.filter (abvL id l)).length := by
      intro L
      induction L with
      | nil => rfl
      | cons y L ih =>
        cases ha : abvL id l y with
        | true => simp [ha]; omega
        | false => simp [ha]; omega
    exact key r.L
  have h2 : ((r.L.filter (abvL id l)).map On.id).length = (l.map id).length := nodup_len2 ((List.filter_sublist.map _).nodup h.nodup) (nodup_map (hl.desc_nodup ht) (fun a ha b hb e => h.inj a b (hlth a ha) (hlth b hb) e)) (fun x => by
    rw [List.mem_map, List.mem_map]
    constructor
    · rintro ⟨y, hy, rfl⟩
      obtain ⟨hy1, hy2⟩ := List.mem_filter.1 hy
      obtain ⟨k, hk, rfl⟩ := (h.mem y).1 hy1
      exact ⟨k, (h.abv hlth hk).1 hy2, rfl⟩
    · rintro ⟨k, hk, rfl⟩
      exact ⟨_, List.mem_filter.2 ⟨h.ent (hlth k hk), (h.abv hlth (hlth k hk)).2 hk⟩, rfl⟩)
  rw [List.length_map, List.length_map] at h2
  omega
end
end Go.Proofs
end
section
namespace Go.Proofs
open Go.RowKit
set_option linter.unusedVariables false
set_option linter.unusedSimpArgs false

/-! ### Act by act -/
structure Both (s : Sp) (r : Rf) (m : Nat) : Prop where
  rel : ∃ id, Rel s r id
  came : r.came ≤ m
  wf : s.WF
  twf : s.t.WF
section
variable {s : Sp} {r : Rf} {m : Nat}
theorem Both.one (h : Both s r m) : Both s r (m + 1) := ⟨h.rel, by have := h.came; omega, h.wf, h.twf⟩
theorem Both.new {gs slots nodes : Nat} (h1 : 1 ≤ gs ∧ gs ≤ 64) (h2 : 1 ≤ slots ∧ slots ≤ 32) (h3 : 1 ≤ nodes ∧ nodes ≤ 512) : Both (sp0 gs slots nodes) (rf0 gs slots nodes) 0 :=
  ⟨⟨_, Rel.new gs slots nodes⟩, Nat.le_refl _, sp0_wf h1 h2 h3, Fo.new_wf nodes⟩
theorem Both.len (h : Both s r m) : r.L.length = s.t.len := by obtain ⟨id, hr⟩ := h.rel; exact hr.len h.twf
theorem Both.len512 (h : Both s r m) : r.L.length ≤ 512 := by rw [h.len]; have := h.twf.len; have := h.wf.size; omega
theorem Both.slots32 (h : Both s r m) : r.slots ≤ 32 := by obtain ⟨id, hr⟩ := h.rel; rw [hr.slots]; exact h.wf.slots.2
theorem Both.rts (h : Both s r m) : ∀ x ∈ r.L, x.cap.rts < 256 := by obtain ⟨id, hr⟩ := h.rel; exact hr.rts h.wf
theorem Both.root (h : Both s r m) (p : Pt) {c : Cp} (hc : c.ok) : r.putE 0 p c = s.rootE p c ∧ Both (s.root p c) (r.put 0 p c) (m + 1) := by
  obtain ⟨id, hr⟩ := h.rel
  have he := hr.rootE h.wf h.twf p c
  refine ⟨he, ?_⟩
  unfold Sp.root Rf.put
  rw [he]
  by_cases hz : s.rootE p c = 0
  · rw [if_pos hz, if_pos hz]
    obtain ⟨z1, z2, z3, z4⟩ := Sp.root0 hz
    have hfr := Fo.free_cons h.twf z4
    exact ⟨hr.add h.wf h.twf z4 (o := none) (fun q e => nomatch e) p c, by show r.came + 1 ≤ m + 1; have := h.came; omega, h.wf.add h.twf z4 (o := none) (fun q e => nomatch e) z1 z2 hc (fun q e => nomatch e), h.twf.add (o := none) hfr (fun q e => nomatch e)⟩
  · rw [if_neg hz, if_neg hz]; exact h.one
theorem Both.derive (h : Both s r m) (p q : Pt) {c : Cp} (hc : c.ok) : r.deriveE p q c = s.deriveE p q c ∧ Both (s.derive p q c) (r.derive p q c) (m + 1) := by
  obtain ⟨id, hr⟩ := h.rel
  have he := hr.deriveE h.wf h.twf p q c
  refine ⟨he, ?_⟩
  unfold Sp.derive
  by_cases hz : s.deriveE p q c = 0
  · rw [if_pos hz]
    obtain ⟨z1, ⟨n, z2, z5⟩, z3, z4, z6, z7⟩ := Sp.derive0 hz
    have hfr := Fo.free_cons h.twf z7
    have hn := (h.wf.back p n z2).1
    have hrd : r.derive p q c = r.putR (parN id (s.f p)) q c := by
      have hfe : r.fullE p = 0 := by rw [hr.fullE h.wf]; exact Sp.full_some z1 z2
      rw [hz] at he
      unfold Rf.deriveE at he
      rw [if_pos hfe] at he
      unfold Rf.derive Rf.put
      rw [if_pos hfe, if_pos he, hr.idAt h.wf z2, z2]
      rfl
    rw [hrd, z2]
    have ho : ∀ q, some n = some q → s.t.there q = true := fun q e => by cases e; exact hn
    exact ⟨hr.add h.wf h.twf z7 ho q c, by show r.came + 1 ≤ m + 1; have := h.came; omega, h.wf.add h.twf z7 ho z3 z4 hc (fun q e => by cases e; exact z5), h.twf.add hfr ho⟩
  · rw [if_neg hz]
    have hrd : r.derive p q c = r := by
      unfold Rf.derive
      split
      · rename_i hfe
        rw [← he] at hz
        unfold Rf.deriveE at hz
        rw [if_pos hfe] at hz
        unfold Rf.put
        rw [if_neg hz]
      · rfl
    rw [hrd]
    exact h.one
theorem Both.fullE (h : Both s r m) (p : Pt) : r.fullE p = s.fullE p := by obtain ⟨id, hr⟩ := h.rel; exact hr.fullE h.wf p
theorem Both.freeE (h : Both s r m) (p : Pt) : r.freeE p = s.freeE p := by obtain ⟨id, hr⟩ := h.rel; exact hr.freeE h.wf p
theorem Both.move (h : Both s r m) (p q : Pt) (hpq : q.g = p.g) : r.moveE p q = s.moveE p q ∧ Both (s.movP p q) (r.move p q) m := by
  obtain ⟨id, hr⟩ := h.rel
  have he := hr.moveE h.wf p q
  refine ⟨he, ?_⟩
  unfold Sp.movP Rf.move
  rw [he]
  by_cases hz : s.moveE p q = 0
  · rw [if_pos hz, if_pos hz]
    obtain ⟨z1, ⟨n, z2⟩, z3, z4⟩ := Sp.move0 hz
    rw [z2]
    exact ⟨⟨id, hr.move h.wf h.twf z2 hpq⟩, h.came, h.wf.move h.twf (h.wf.back p n z2).1 z3 z4, h.twf⟩
  · rw [if_neg hz, if_neg hz]; exact h
theorem Both.del (h : Both s r m) (p : Pt) : Both (s.delP p) (r.delP p) m := by
  obtain ⟨id, hr⟩ := h.rel
  unfold Sp.delP Rf.delP
  cases hf : s.f p with
  | none =>
    have : r.fullE p ≠ 0 := by rw [hr.fullE h.wf]; exact Sp.full_none hf
    rw [if_neg this]; exact h
  | some n =>
    have hn := (h.wf.back p n hf).1
    have : r.fullE p = 0 := by rw [hr.fullE h.wf]; exact Sp.full_some (h.wf.slot_of hf) hf
    rw [if_pos this]
    have hd : r.del p = { r with L := delL (Go.Proofs.ent s id n) r.L } := by unfold Rf.del; rw [hr.atO h.wf, hf]; rfl
    rw [hd]
    exact ⟨⟨id, hr.drop h.wf h.twf hn⟩, h.came, h.wf.drop h.twf hn, h.twf.drop hn⟩
theorem Both.caps (h : Both s r m) (g : Int) : r.caps g = s.caps g := by obtain ⟨id, hr⟩ := h.rel; exact hr.caps h.wf g
theorem Both.clearL (g : Int) : ∀ (l : List Hl) {s : Sp} {r : Rf}, Both s r m → Both (s.clear g l) (r.clear g l) m
  | [], s, r, h => h
  | x :: l, s, r, h => by
    show Both (Sp.clear (s.delP ⟨g, x.slot⟩) g l) (Rf.clear (r.delP ⟨g, x.slot⟩) g l) m
    exact Both.clearL g l (h.del _)
theorem Both.clear (h : Both s r m) (g : Int) : Both (s.clear g (s.caps g)) (r.clear g (r.caps g)) m := by rw [h.caps]; exact Both.clearL g _ h
theorem Both.parAt (h : Both s r m) (p : Pt) : r.parAt p = s.parAt p := by obtain ⟨id, hr⟩ := h.rel; exact hr.parAt h.wf h.twf p
theorem Sp.Goes.exists (ht : s.t.WF) (p : Pt) : ∃ l, s.Goes p l := by
  unfold Sp.Goes
  cases s.f p with
  | none => exact ⟨[], rfl⟩
  | some n => exact Pre.exists ht _
/-- What Revoke leaves of both. -/
theorem Both.revoke (h : Both s r m) {p : Pt} {n : Nat} (hf : s.f p = some n) {l : List Nat} (hl : Pre s.t (s.t.kids n) l) :
    ∃ abv, r.Tells (r.idAt p) abv ∧ r.L.length - (r.left abv).L.length = l.length ∧ Both (s.prune n l) (r.left abv) m := by
  obtain ⟨id, hr⟩ := h.rel
  have hn := (h.wf.back p n hf).1
  refine ⟨abvL id l, by rw [hr.idAt h.wf hf]; exact hr.tells h.twf hn hl, hr.went h.wf h.twf hn hl, ⟨id, hr.prune h.wf h.twf hn hl⟩, h.came, (h.wf.prune h.twf hl).1, h.twf.prune hl⟩
/-- Who is under whom, in both. -/
theorem Both.under (h : Both s r m) {p q : Pt} {n k : Nat} (hf : s.f p = some n) (hg : s.f q = some k) : ∃ x y l, r.atO p = some x ∧ r.atO q = some y ∧ Ab r.L x l ∧ l.length ≤ r.L.length ∧ (y.id ∈ l.map On.id ↔ Anc s.t k n) := by
  obtain ⟨id, hr⟩ := h.rel
  obtain ⟨l, h1, h2, h3⟩ := hr.chainL h.twf (h.wf.back p n hf).1
  exact ⟨_, _, l, by rw [hr.atO h.wf, hf]; rfl, by rw [hr.atO h.wf, hg]; rfl, h1, h2, h3 k (h.wf.back q k hg).1⟩
theorem Both.atO (h : Both s r m) (p : Pt) : (s.f p = none ∧ r.atO p = none) ∨ ∃ n x, s.f p = some n ∧ r.atO p = some x ∧ x.cap = (s.hd n).cap ∧ x.g = p.g ∧ x.s = p.s := by
  obtain ⟨id, hr⟩ := h.rel
  rw [hr.atO h.wf]
  cases hf : s.f p with
  | none => exact .inl ⟨rfl, rfl⟩
  | some n =>
    have hp := (h.wf.back p n hf).2
    exact .inr ⟨n, _, rfl, rfl, rfl, by show (s.hd n).p.g = _; rw [hp], by show (s.hd n).p.s = _; rw [hp]⟩
end
end Go.Proofs
end
section
namespace Go.Proofs
open Go.RowKit
set_option linter.unusedVariables false
set_option linter.unusedSimpArgs false

/-! ### Both spaces in memory -/
theorem spaces_apart {w : World} {a b : Nat} {S T : List Nat} {s : Sp} {r : Rf} (h : SpAt w a S s) (k : RefAt w b T r) : ∀ x ∈ S, x ∉ T := fun x hx hxT => by
  rcases k.blk x hxT with ⟨cs, hb⟩ | ⟨cs, hb⟩
  · exact h.other hb (by decide) (by decide) (by decide) (by decide) (by decide) hx
  · exact h.other hb (by decide) (by decide) (by decide) (by decide) (by decide) hx
/-- What an act leaves of both. -/
def PTurns (a b : Nat) (S T : List Nat) (s' : Sp) (r' : Rf) (w w' : World) : Prop :=
  ∃ S' T', SpAt w' a S' s' ∧ RefAt w' b T' r' ∧ (∀ k ∈ S', k ∈ S ∨ w.heap.size ≤ k) ∧ (∀ k ∈ T', k ∈ T ∨ w.heap.size ≤ k) ∧ Chg (S ++ T) w w'
section
variable {a b : Nat} {S T : List Nat} {s s' : Sp} {r r' : Rf} {w w1 w2 : World}
theorem PTurns.refl (h : SpAt w a S s) (k : RefAt w b T r) (hc : Chg [] w w1) : PTurns a b S T s r w w1 :=
  ⟨S, T, h.quiet hc, k.quiet hc, fun k hk => .inl hk, fun k hk => .inl hk, hc.any⟩
theorem PTurns.later (h : PTurns a b S T s r w w1) (hc : Chg [] w1 w2) : PTurns a b S T s r w w2 := by
  obtain ⟨S', T', h1, h2, h3, h4, h5⟩ := h
  exact ⟨S', T', h1.quiet hc, h2.quiet hc, h3, h4, h5.then hc⟩
theorem PTurns.earlier (h : PTurns a b S T s r w1 w2) (hc : Chg [] w w1) : PTurns a b S T s r w w2 := by
  obtain ⟨S', T', h1, h2, h3, h4, h5⟩ := h
  exact ⟨S', T', h1, h2, fun k hk => (h3 k hk).imp id (fun h => Nat.le_trans hc.size h), fun k hk => (h4 k hk).imp id (fun h => Nat.le_trans hc.size h), (Chg.any hc).trans h5 (fun k hk => .inl hk)⟩
/-- The program first, then the document. -/
theorem duo_cd (h : SpAt w a S s) (k : RefAt w b T r) (h1 : STurns a S s' w w1) (h2 : RTurns b T r' w1 w2) : PTurns a b S T s' r' w w2 := by
  have hap := spaces_apart h k
  obtain ⟨S', a1, a2, a3⟩ := h1
  obtain ⟨T', b1, b2, b3⟩ := h2
  have hap2 := spaces_apart a1 (k.chg a3 (fun x hx hxS => hap x hxS hx))
  exact ⟨S', T', a1.chg b3 hap2, b1, a2, fun x hx => (b2 x hx).imp id (fun h => Nat.le_trans a3.size h), (a3.mono (fun x hx => .inl (by simp [hx]))).trans b3 (fun x hx => .inl (by simp [hx]))⟩
/-- The document first, then the program. -/
theorem duo_dc (h : SpAt w a S s) (k : RefAt w b T r) (h2 : RTurns b T r' w w1) (h1 : STurns a S s' w1 w2) : PTurns a b S T s' r' w w2 := by
  have hap := spaces_apart h k
  obtain ⟨S', a1, a2, a3⟩ := h1
  obtain ⟨T', b1, b2, b3⟩ := h2
  have hap2 := spaces_apart (h.chg b3 hap) b1
  exact ⟨S', T', a1, b1.chg a3 (fun x hx hxS => hap2 x hxS hx), fun x hx => (a2 x hx).imp id (fun h => Nat.le_trans b3.size h), b2, (b3.mono (fun x hx => .inl (by simp [hx]))).trans a3 (fun x hx => .inl (by simp [hx]))⟩
theorem STurns.chg_ (h : STurns a S s w w1) : Chg S w w1 := by obtain ⟨_, _, _, h⟩ := h; exact h
theorem RTurns.chg_ (h : RTurns b T r w w1) : Chg T w w1 := by obtain ⟨_, _, _, h⟩ := h; exact h
end
/-! ### An act -/
structure ActC where
  kind : Int
  g : Int
  slot : Int
  toG : Int
  dst : Int
  cap : Cp
abbrev ActC.arr (x : ActC) : Array Value := #[.int .i64 x.kind, .int .i64 x.g, .int .i64 x.slot, .int .i64 x.toG, .int .i64 x.dst, .int .i64 x.cap.kind, .int .i64 x.cap.idx, .int .u64 x.cap.gen, .int .u8 (x.cap.rts : Nat)]
abbrev ActC.val (x : ActC) : Value := .agg x.arr
abbrev ActC.cells (x : ActC) : List Value := [.int .i64 x.kind, .int .i64 x.g, .int .i64 x.slot, .int .i64 x.toG, .int .i64 x.dst, .int .i64 x.cap.kind, .int .i64 x.cap.idx, .int .u64 x.cap.gen, .int .u8 (x.cap.rts : Nat)]
structure ActC.Fits (x : ActC) : Prop where
  g : I64 x.g
  slot : I64 x.slot
  toG : I64 x.toG
  dst : I64 x.dst
  cap : x.cap.ok
/-- What the box of an act still says. -/
theorem box_at {W : World} {n : Nat} {x : ActC} (h : Blk W n 41 x.arr) : n < W.heap.size ∧ W.cell? ⟨n, 0, none⟩ = some (.int .i64 x.kind) ∧ W.cell? ⟨n, 1, none⟩ = some (.int .i64 x.g) ∧ W.cell? ⟨n, 2, none⟩ = some (.int .i64 x.slot) ∧ W.cell? ⟨n, 3, none⟩ = some (.int .i64 x.toG) ∧ W.cell? ⟨n, 4, none⟩ = some (.int .i64 x.dst) ∧ W.cell? ⟨n, 5, none⟩ = some (.int .i64 x.cap.kind) ∧ W.cell? ⟨n, 6, none⟩ = some (.int .i64 x.cap.idx) ∧ W.cell? ⟨n, 7, none⟩ = some (.int .u64 x.cap.gen) ∧ W.cell? ⟨n, 8, none⟩ = some (.int .u8 (x.cap.rts : Nat)) :=
  ⟨h.lt, h.cell 0, h.cell 1, h.cell 2, h.cell 3, h.cell 4, h.cell 5, h.cell 6, h.cell 7, h.cell 8⟩
/-- As many goroutines and slots, and as much room in all. -/
def Shp (s s' : Sp) : Prop := s'.gs = s.gs ∧ s'.slots = s.slots ∧ s'.t.size = s.t.size
theorem shp_add (s : Sp) (o : Option Nat) (p : Pt) (c : Cp) : Shp s (s.add o p c) := ⟨rfl, rfl, Fo.addAt_size _ _ _ _⟩
theorem shp_root (s : Sp) (p : Pt) (c : Cp) : Shp s (s.root p c) := by unfold Sp.root; split; exact shp_add _ _ _ _; exact ⟨rfl, rfl, rfl⟩
theorem shp_derive (s : Sp) (p q : Pt) (c : Cp) : Shp s (s.derive p q c) := by unfold Sp.derive; split; exact shp_add _ _ _ _; exact ⟨rfl, rfl, rfl⟩
theorem shp_mov (s : Sp) (p q : Pt) : Shp s (s.movP p q) := by
  unfold Sp.movP
  split
  · split <;> exact ⟨rfl, rfl, rfl⟩
  · exact ⟨rfl, rfl, rfl⟩
theorem shp_drop (s : Sp) (n : Nat) : Shp s (s.drop n) := ⟨rfl, rfl, Fo.drop_size _ _⟩
theorem shp_del (s : Sp) (p : Pt) : Shp s (s.delP p) := by unfold Sp.delP; split; exact shp_drop _ _; exact ⟨rfl, rfl, rfl⟩
theorem shp_clear (g : Int) : ∀ (l : List Hl) (s : Sp), Shp s (s.clear g l)
  | [], s => ⟨rfl, rfl, rfl⟩
  | x :: l, s => by
    obtain ⟨h1, h2, h5⟩ := shp_clear g l (s.delP ⟨g, x.slot⟩)
    obtain ⟨h3, h4, h6⟩ := shp_del s ⟨g, x.slot⟩
    exact ⟨h1.trans h3, h2.trans h4, h5.trans h6⟩
theorem shp_rev (s : Sp) (p : Pt) (l : List Nat) : Shp s (s.revP p l) := by unfold Sp.revP; split <;> exact ⟨rfl, rfl, rfl⟩
/-- What an act does: true, and both are turned alike. -/
def DoOut (a b : Nat) (S T : List Nat) (s : Sp) (m : Nat) (w : World) (e : Ending) (w' : World) : Prop :=
  e = .returned (.bool true) ∧ ∃ s' r', PTurns a b S T s' r' w w' ∧ Both s' r' (m + 1) ∧ Shp s s'
end Go.Proofs
end
section
namespace Go.Proofs
open Go.RowKit
set_option linter.unusedVariables false
set_option linter.unusedSimpArgs false
section
variable {w : World} {a b : Nat} {S T : List Nat} {s : Sp} {r : Rf} {m : Nat}
set_option maxHeartbeats 6400000 in
set_option maxRecDepth 100000 in
theorem do1 (h : SpAt w a S s) (k : RefAt w b T r) (hb : Both s r m) (hm : m ≤ 1000000) (g sl tg td : Int) {ck ci cg : Int} {cr : Nat} (hg : I64 g) (hcok : Cp.ok ⟨ck, ci, cg, cr⟩) :
    Calls Try.prog 14 #[ptr a, ptr b, .agg #[.int .i64 1, .int .i64 g, .int .i64 sl, .int .i64 tg, .int .i64 td, .int .i64 ck, .int .i64 ci, .int .u64 cg, .int .u8 (cr : Nat)]] w fun e w' => DoOut a b S T s m w e w' := by
  have apST := spaces_apart h k
  have apTS : ∀ x ∈ T, x ∉ S := fun x hx hxS => apST x hxS hx
  have hl : r.L.length ≤ 10000 := by have := hb.len512; omega
  have hs32 := hb.slots32
  have hcm : r.came ≤ 1000000 := by have := hb.came; omega
  have hrt := hb.rts
  have FA := Lib.hid (fun W (hc : Chg T w W) => (root_any (h.chg hc apST) ⟨g, sl⟩ hcok : Calls Try.prog 29 #[ptr a, .int .i64 g, .int .i64 sl, Cp.val ⟨ck, ci, cg, cr⟩] W fun e w' => e = .returned (.int .i64 (s.rootE ⟨g, sl⟩ ⟨ck, ci, cg, cr⟩)) ∧ STurns a S (s.root ⟨g, sl⟩ ⟨ck, ci, cg, cr⟩) W w'))
  have FD := Lib.hid (fun W (hc : Chg S w W) => ((by have := rput_any (k.chg hc apTS) hl hcm 0 ⟨g, sl⟩ hcok hrt; rw [(hb.root ⟨g, sl⟩ hcok).1] at this; exact this) : Calls Try.prog 41 #[ptr b, .int .i64 0, .int .i64 g, .int .i64 sl, Cp.val ⟨ck, ci, cg, cr⟩] W fun e w' => e = .returned (.int .i64 (s.rootE ⟨g, sl⟩ ⟨ck, ci, cg, cr⟩)) ∧ RTurns b T (r.put 0 ⟨g, sl⟩ ⟨ck, ci, cg, cr⟩) W w'))
  have HB := Lib.hid ((hb.root ⟨g, sl⟩ hcok).2)
  have HSHP := Lib.hid (show ∀ s1, s1 = s.root ⟨g, sl⟩ ⟨ck, ci, cg, cr⟩ → Shp s s1 from fun s1 e => by rw [e]; exact (shp_root s ⟨g, sl⟩ ⟨ck, ci, cg, cr⟩))
  have HSlt := Lib.hid h.lt
  have HTlt := Lib.hid k.lt
  have HH := Lib.hid h
  have HR := Lib.hid k
  obtain ⟨z, hz⟩ : ∃ z, z = s.rootE ⟨g, sl⟩ ⟨ck, ci, cg, cr⟩ := ⟨_, rfl⟩
  rw [← hz] at FA FD
  obtain ⟨s1, hs1⟩ : ∃ s1, s1 = s.root ⟨g, sl⟩ ⟨ck, ci, cg, cr⟩ := ⟨_, rfl⟩
  rw [← hs1] at FA HB
  have HSH := Lib.hid (HSHP.out s1 hs1)
  clear HSHP
  obtain ⟨r1, hr1⟩ : ∃ r1, r1 = r.put 0 ⟨g, sl⟩ ⟨ck, ci, cg, cr⟩ := ⟨_, rfl⟩
  rw [← hr1] at FD HB
  have hzz : (z == z) = true := by simp
  have HG0 := Lib.hid (Chg.drew ((Chg.refl [] w).alloc (.cells #[.int .i64 1, .int .i64 g, .int .i64 sl, .int .i64 tg, .int .i64 td, .int .i64 ck, .int .i64 ci, .int .u64 cg, .int .u8 (cr : Nat)] 41)))
  have HX0 := Lib.hid (Blk.drew (Blk.new w 41 #[.int .i64 1, .int .i64 g, .int .i64 sl, .int .i64 tg, .int .i64 td, .int .i64 ck, .int .i64 ci, .int .u64 cg, .int .u8 (cr : Nat)]))
  clear h k hb apST apTS hl hcm hrt hz hs1 hr1 hs32
  go_enter Try.func14, Try.ntmps14
  go_wp2
  go_region_held3 (fun w' => w'.cell? ⟨w.heap.size, 1, none⟩ = some (.int .i64 g) ∧ w'.cell? ⟨w.heap.size, 2, none⟩ = some (.int .i64 sl) ∧ w'.cell? ⟨w.heap.size, 5, none⟩ = some (.int .i64 ck) ∧ w'.cell? ⟨w.heap.size, 6, none⟩ = some (.int .i64 ci) ∧ w'.cell? ⟨w.heap.size, 7, none⟩ = some (.int .u64 cg) ∧ w'.cell? ⟨w.heap.size, 8, none⟩ = some (.int .u8 (cr : Nat)))
    (first | go_keep)
    (first
      | (go_at_call 29; refine (FA.out _ GD.out).mono ?_; rintro e w3 ⟨rfl, hT⟩; have HFIN := Lib.hid ((duo_dc (HH.out.quiet HG0.out) (HR.out.quiet HG0.out) HTD.out hT).earlier HG0.out); obtain ⟨_, _, y1, y2, y3, y4, y5, y6, y7, y8⟩ := box_at (x := ⟨1, g, sl, tg, td, ⟨ck, ci, cg, cr⟩⟩) (BD.out.chg hT.chg_ (fun hh => by have := HSlt.out _ hh; omega)); clear hT)
      | (go_at_call 41; refine (FD.out _ GC.out).mono ?_; rintro e w3 ⟨rfl, hT⟩; have HFIN := Lib.hid ((duo_cd (HH.out.quiet HG0.out) (HR.out.quiet HG0.out) HTC.out hT).earlier HG0.out); obtain ⟨_, _, y1, y2, y3, y4, y5, y6, y7, y8⟩ := box_at (x := ⟨1, g, sl, tg, td, ⟨ck, ci, cg, cr⟩⟩) (BC.out.chg hT.chg_ (fun hh => by have := HTlt.out _ hh; omega)); clear hT)
      | (go_at_call 29; refine (FA.out _ (Chg.any HG0.out)).mono ?_; rintro e w1 ⟨rfl, hT⟩; have hb1 := HX0.out.chg hT.chg_ (fun hh => by have := HSlt.out _ hh; omega); obtain ⟨_, _, x1, x2, x3, x4, x5, x6, x7, x8⟩ := box_at (x := ⟨1, g, sl, tg, td, ⟨ck, ci, cg, cr⟩⟩) hb1; have BC := Lib.hid hb1; have GC := Lib.hid ((Chg.any (S := S) HG0.out).trans hT.chg_ (fun j hj => .inl hj)); have HTC := Lib.hid hT; clear hT hb1)
      | (go_at_call 41; refine (FD.out _ (Chg.any HG0.out)).mono ?_; rintro e w1 ⟨rfl, hT⟩; have hb1 := HX0.out.chg hT.chg_ (fun hh => by have := HTlt.out _ hh; omega); obtain ⟨_, _, x1, x2, x3, x4, x5, x6, x7, x8⟩ := box_at (x := ⟨1, g, sl, tg, td, ⟨ck, ci, cg, cr⟩⟩) hb1; have BD := Lib.hid hb1; have GD := Lib.hid ((Chg.any (S := T) HG0.out).trans hT.chg_ (fun j hj => .inl hj)); have HTD := Lib.hid hT; clear hT hb1))
  all_goals
    go_wp2
    go_ret
    exact ⟨rfl, s1, r1, HFIN.out, HB.out, HSH.out⟩
end
end Go.Proofs
end
section
namespace Go.Proofs
open Go.RowKit
set_option linter.unusedVariables false
set_option linter.unusedSimpArgs false
section
variable {w : World} {a b : Nat} {S T : List Nat} {s : Sp} {r : Rf} {m : Nat}
set_option maxHeartbeats 6400000 in
set_option maxRecDepth 100000 in
theorem do2 (h : SpAt w a S s) (k : RefAt w b T r) (hb : Both s r m) (hm : m ≤ 1000000) (g sl tg td : Int) {ck ci cg : Int} {cr : Nat} (hg : I64 g) (hcok : Cp.ok ⟨ck, ci, cg, cr⟩) :
    Calls Try.prog 14 #[ptr a, ptr b, .agg #[.int .i64 2, .int .i64 g, .int .i64 sl, .int .i64 tg, .int .i64 td, .int .i64 ck, .int .i64 ci, .int .u64 cg, .int .u8 (cr : Nat)]] w fun e w' => DoOut a b S T s m w e w' := by
  have apST := spaces_apart h k
  have apTS : ∀ x ∈ T, x ∉ S := fun x hx hxS => apST x hxS hx
  have hl : r.L.length ≤ 10000 := by have := hb.len512; omega
  have hs32 := hb.slots32
  have hcm : r.came ≤ 1000000 := by have := hb.came; omega
  have hrt := hb.rts
  have FA := Lib.hid (fun W (hc : Chg T w W) => (derive_any (h.chg hc apST) ⟨g, sl⟩ ⟨tg, td⟩ hcok : Calls Try.prog 31 #[ptr a, .int .i64 g, .int .i64 sl, .int .i64 tg, .int .i64 td, Cp.val ⟨ck, ci, cg, cr⟩] W fun e w' => e = .returned (.int .i64 (s.deriveE ⟨g, sl⟩ ⟨tg, td⟩ ⟨ck, ci, cg, cr⟩)) ∧ STurns a S (s.derive ⟨g, sl⟩ ⟨tg, td⟩ ⟨ck, ci, cg, cr⟩) W w'))
  have FD := Lib.hid (fun W (hc : Chg S w W) => ((by have := rderive_any (k.chg hc apTS) hl hcm ⟨g, sl⟩ ⟨tg, td⟩ hcok hrt; rw [(hb.derive ⟨g, sl⟩ ⟨tg, td⟩ hcok).1] at this; exact this) : Calls Try.prog 42 #[ptr b, .int .i64 g, .int .i64 sl, .int .i64 tg, .int .i64 td, Cp.val ⟨ck, ci, cg, cr⟩] W fun e w' => e = .returned (.int .i64 (s.deriveE ⟨g, sl⟩ ⟨tg, td⟩ ⟨ck, ci, cg, cr⟩)) ∧ RTurns b T (r.derive ⟨g, sl⟩ ⟨tg, td⟩ ⟨ck, ci, cg, cr⟩) W w'))
  have HB := Lib.hid ((hb.derive ⟨g, sl⟩ ⟨tg, td⟩ hcok).2)
  have HSHP := Lib.hid (show ∀ s1, s1 = s.derive ⟨g, sl⟩ ⟨tg, td⟩ ⟨ck, ci, cg, cr⟩ → Shp s s1 from fun s1 e => by rw [e]; exact (shp_derive s ⟨g, sl⟩ ⟨tg, td⟩ ⟨ck, ci, cg, cr⟩))
  have HSlt := Lib.hid h.lt
  have HTlt := Lib.hid k.lt
  have HH := Lib.hid h
  have HR := Lib.hid k
  obtain ⟨z, hz⟩ : ∃ z, z = s.deriveE ⟨g, sl⟩ ⟨tg, td⟩ ⟨ck, ci, cg, cr⟩ := ⟨_, rfl⟩
  rw [← hz] at FA FD
  obtain ⟨s1, hs1⟩ : ∃ s1, s1 = s.derive ⟨g, sl⟩ ⟨tg, td⟩ ⟨ck, ci, cg, cr⟩ := ⟨_, rfl⟩
  rw [← hs1] at FA HB
  have HSH := Lib.hid (HSHP.out s1 hs1)
  clear HSHP
  obtain ⟨r1, hr1⟩ : ∃ r1, r1 = r.derive ⟨g, sl⟩ ⟨tg, td⟩ ⟨ck, ci, cg, cr⟩ := ⟨_, rfl⟩
  rw [← hr1] at FD HB
  have hzz : (z == z) = true := by simp
  have HG0 := Lib.hid (Chg.drew ((Chg.refl [] w).alloc (.cells #[.int .i64 2, .int .i64 g, .int .i64 sl, .int .i64 tg, .int .i64 td, .int .i64 ck, .int .i64 ci, .int .u64 cg, .int .u8 (cr : Nat)] 41)))
  have HX0 := Lib.hid (Blk.drew (Blk.new w 41 #[.int .i64 2, .int .i64 g, .int .i64 sl, .int .i64 tg, .int .i64 td, .int .i64 ck, .int .i64 ci, .int .u64 cg, .int .u8 (cr : Nat)]))
  clear h k hb apST apTS hl hcm hrt hz hs1 hr1 hs32
  go_enter Try.func14, Try.ntmps14
  go_wp2
  go_region_held3 (fun w' => w'.cell? ⟨w.heap.size, 1, none⟩ = some (.int .i64 g) ∧ w'.cell? ⟨w.heap.size, 2, none⟩ = some (.int .i64 sl) ∧ w'.cell? ⟨w.heap.size, 3, none⟩ = some (.int .i64 tg) ∧ w'.cell? ⟨w.heap.size, 4, none⟩ = some (.int .i64 td) ∧ w'.cell? ⟨w.heap.size, 5, none⟩ = some (.int .i64 ck) ∧ w'.cell? ⟨w.heap.size, 6, none⟩ = some (.int .i64 ci) ∧ w'.cell? ⟨w.heap.size, 7, none⟩ = some (.int .u64 cg) ∧ w'.cell? ⟨w.heap.size, 8, none⟩ = some (.int .u8 (cr : Nat)))
    (first | go_keep)
    (first
      | (go_at_call 31; refine (FA.out _ GD.out).mono ?_; rintro e w3 ⟨rfl, hT⟩; have HFIN := Lib.hid ((duo_dc (HH.out.quiet HG0.out) (HR.out.quiet HG0.out) HTD.out hT).earlier HG0.out); obtain ⟨_, _, y1, y2, y3, y4, y5, y6, y7, y8⟩ := box_at (x := ⟨2, g, sl, tg, td, ⟨ck, ci, cg, cr⟩⟩) (BD.out.chg hT.chg_ (fun hh => by have := HSlt.out _ hh; omega)); clear hT)
      | (go_at_call 42; refine (FD.out _ GC.out).mono ?_; rintro e w3 ⟨rfl, hT⟩; have HFIN := Lib.hid ((duo_cd (HH.out.quiet HG0.out) (HR.out.quiet HG0.out) HTC.out hT).earlier HG0.out); obtain ⟨_, _, y1, y2, y3, y4, y5, y6, y7, y8⟩ := box_at (x := ⟨2, g, sl, tg, td, ⟨ck, ci, cg, cr⟩⟩) (BC.out.chg hT.chg_ (fun hh => by have := HTlt.out _ hh; omega)); clear hT)
      | (go_at_call 31; refine (FA.out _ (Chg.any HG0.out)).mono ?_; rintro e w1 ⟨rfl, hT⟩; have hb1 := HX0.out.chg hT.chg_ (fun hh => by have := HSlt.out _ hh; omega); obtain ⟨_, _, x1, x2, x3, x4, x5, x6, x7, x8⟩ := box_at (x := ⟨2, g, sl, tg, td, ⟨ck, ci, cg, cr⟩⟩) hb1; have BC := Lib.hid hb1; have GC := Lib.hid ((Chg.any (S := S) HG0.out).trans hT.chg_ (fun j hj => .inl hj)); have HTC := Lib.hid hT; clear hT hb1)
      | (go_at_call 42; refine (FD.out _ (Chg.any HG0.out)).mono ?_; rintro e w1 ⟨rfl, hT⟩; have hb1 := HX0.out.chg hT.chg_ (fun hh => by have := HTlt.out _ hh; omega); obtain ⟨_, _, x1, x2, x3, x4, x5, x6, x7, x8⟩ := box_at (x := ⟨2, g, sl, tg, td, ⟨ck, ci, cg, cr⟩⟩) hb1; have BD := Lib.hid hb1; have GD := Lib.hid ((Chg.any (S := T) HG0.out).trans hT.chg_ (fun j hj => .inl hj)); have HTD := Lib.hid hT; clear hT hb1))
  all_goals
    go_wp2
    go_ret
    exact ⟨rfl, s1, r1, HFIN.out, HB.out, HSH.out⟩
end
end Go.Proofs
end
section
namespace Go.Proofs
open Go.RowKit
set_option linter.unusedVariables false
set_option linter.unusedSimpArgs false
section
variable {w : World} {a b : Nat} {S T : List Nat} {s : Sp} {r : Rf} {m : Nat}
set_option maxHeartbeats 6400000 in
set_option maxRecDepth 100000 in
theorem do3 (h : SpAt w a S s) (k : RefAt w b T r) (hb : Both s r m) (hm : m ≤ 1000000) (g sl tg td : Int) {ck ci cg : Int} {cr : Nat} :
    Calls Try.prog 14 #[ptr a, ptr b, .agg #[.int .i64 3, .int .i64 g, .int .i64 sl, .int .i64 tg, .int .i64 td, .int .i64 ck, .int .i64 ci, .int .u64 cg, .int .u8 (cr : Nat)]] w fun e w' => DoOut a b S T s m w e w' := by
  have hl : r.L.length ≤ 10000 := by have := hb.len512; omega
  have FG := Lib.hid (fun W (hc : Chg [] w W) => get_any (h.quiet hc) ⟨g, sl⟩)
  have FE := Lib.hid (fun W (hc : Chg [] w W) => (by have := full_is (k.quiet hc) (by omega) ⟨g, sl⟩; rw [hb.fullE] at this; exact this : Calls Try.prog 43 #[ptr b, .int .i64 g, .int .i64 sl] W fun e w' => e = .returned (.int .i64 (s.fullE ⟨g, sl⟩)) ∧ w' = W))
  have FF := Lib.hid (fun W (hc : Chg [] w W) => (find_is (k.quiet hc) (by omega) ⟨g, sl⟩ : Calls Try.prog 27 #[ptr b, .int .i64 g, .int .i64 sl] W fun e w' => e = .returned (.int .i64 (r.fI ⟨g, sl⟩)) ∧ w' = W))
  have HFIN := Lib.hid (fun W (hc : Chg [] w W) => show DoOut a b S T s m w (.returned (.bool true)) W from ⟨rfl, s, r, PTurns.refl h k hc, hb.one, rfl, rfl, rfl⟩)
  have HG0 := Lib.hid (((Chg.refl [] w).alloc (.cells #[.int .i64 3, .int .i64 g, .int .i64 sl, .int .i64 tg, .int .i64 td, .int .i64 ck, .int .i64 ci, .int .u64 cg, .int .u8 (cr : Nat)] 41)))
  have HX0 := Lib.hid ((Blk.new w 41 #[.int .i64 3, .int .i64 g, .int .i64 sl, .int .i64 tg, .int .i64 td, .int .i64 ck, .int .i64 ci, .int .u64 cg, .int .u8 (cr : Nat)]))
  cases hf : s.f ⟨g, sl⟩ with
  | none =>
    have hz := Sp.full_none hf
    have hca : s.capAt ⟨g, sl⟩ = ⟨0, 0, 0, 0⟩ := by unfold Sp.capAt; rw [hf]; rfl
    rw [hca] at FG
    obtain ⟨z, hzz⟩ : ∃ z, z = s.fullE ⟨g, sl⟩ := ⟨_, rfl⟩
    rw [← hzz] at FG FE hz
    have e1 : (z == z) = true := by simp
    have e2 : (z != 0) = true := by simpa using hz
    have heq : ∀ W, (binOp .eql 39 (.agg #[.int .i64 0, .int .i64 0, .int .u64 0, .int .u8 0]) (.agg #[.int .i64 0, .int .i64 0, .int .u64 0, .int .u8 0])).run Try.prog W = .ok (.bool true) W := fun W => by
      have := eql_cap ⟨0, 0, 0, 0⟩ ⟨0, 0, 0, 0⟩ W
      rw [decide_eq_true rfl] at this
      exact this
    clear h k hb hl hf hca hzz hz FF
    go_enter Try.func14, Try.ntmps14
    go_wp2_with (first
      | (go_at_call 18; refine (FG.out _ HG0.out).mono ?_; rintro e w1 ⟨rfl, hc⟩; have hb1 := HX0.out.quiet hc; obtain ⟨_, _, x1, x2, _⟩ := box_at (x := ⟨3, g, sl, tg, td, ⟨ck, ci, cg, cr⟩⟩) hb1; have hc1 := HG0.out.then hc; have HC2 := Lib.hid (hc1.alloc (.cells #[.int .i64 0, .int .i64 0, .int .u64 0, .int .u8 0] 39)); have HX1 := Lib.hid (hb1.quiet ((Chg.refl [] w1).alloc (.cells #[.int .i64 0, .int .i64 0, .int .u64 0, .int .u8 0] 39))); clear hc hb1 hc1)
      | (go_at_call 43; refine (FE.out _ HC2.out).mono ?_; rintro e w2 ⟨rfl, rfl⟩))
    go_quiet (fail)
    go_wp2
    go_ret
    exact HFIN.out _ (HC2.out.drewN _)
  | some n =>
    rcases hb.atO ⟨g, sl⟩ with ⟨hn, _⟩ | ⟨n', x, hn, hx, hcap, _⟩
    · rw [hf] at hn; cases hn
    rw [hf] at hn
    cases hn
    have hz : s.fullE ⟨g, sl⟩ = 0 := Sp.full_some (hb.wf.slot_of hf) hf
    rw [hz] at FG FE
    have hca : s.capAt ⟨g, sl⟩ = x.cap := by unfold Sp.capAt; rw [hf, hcap]
    rw [hca] at FG
    obtain ⟨hfi, hfl⟩ : r.fI ⟨g, sl⟩ = ((r.fd ⟨g, sl⟩ : Nat) : Int) ∧ r.fd ⟨g, sl⟩ < r.L.length := by
      rcases r.fI_cases ⟨g, sl⟩ with ⟨h9, _⟩ | ⟨_, _, hf1, hf2, _⟩
      · rw [hx] at h9; cases h9
      · exact ⟨hf1, hf2⟩
    rw [hfi] at FF
    obtain ⟨A, cc, hA, hcc, hh, hrow, _⟩ := k.head
    obtain ⟨gb, rfl, hgb, hcell⟩ := hrow _ x hx
    have HL := Lib.hid (fun W (hc : Chg [] w W) => (⟨(hh W hc).2.2.2.1, (hh W hc).2.2.2.2.2.1, (hcell W hc).1, (hcell W hc).2.2.2.2.2.2⟩ : W.cell? ⟨b, 3, none⟩ = some (.slice (some ⟨gb, 0, none⟩) r.L.length cc) ∧ b < W.heap.size ∧ gb < W.heap.size ∧ W.cell? ⟨gb, r.fd ⟨g, sl⟩ * 8 + 4, none⟩ = some (.int .i64 x.cap.kind) ∧ W.cell? ⟨gb, r.fd ⟨g, sl⟩ * 8 + 5, none⟩ = some (.int .i64 x.cap.idx) ∧ W.cell? ⟨gb, r.fd ⟨g, sl⟩ * 8 + 6, none⟩ = some (.int .u64 x.cap.gen) ∧ W.cell? ⟨gb, r.fd ⟨g, sl⟩ * 8 + 7, none⟩ = some (.int .u8 (x.cap.rts : Nat))))
    obtain ⟨N, hN⟩ : ∃ N, N = r.L.length := ⟨_, rfl⟩
    obtain ⟨d, hd⟩ : ∃ N, N = r.fd ⟨g, sl⟩ := ⟨_, rfl⟩
    rw [← hN] at HL hfl
    rw [← hd] at HL hfl FF
    have d0 : (0 : Int) ≤ (d : Int) := by omega
    have d1 : (d : Int) < (N : Int) := by omega
    obtain ⟨⟨qk, qi, qg, qr⟩, hq⟩ : ∃ q, q = x.cap := ⟨_, rfl⟩
    rw [← hq] at FG HL
    simp only at HL
    have heq : ∀ W, (binOp .eql 39 (.agg #[.int .i64 qk, .int .i64 qi, .int .u64 qg, .int .u8 (qr : Nat)]) (.agg #[.int .i64 qk, .int .i64 qi, .int .u64 qg, .int .u8 (qr : Nat)])).run Try.prog W = .ok (.bool true) W := fun W => by
      have := eql_cap ⟨qk, qi, qg, qr⟩ ⟨qk, qi, qg, qr⟩ W
      rw [decide_eq_true rfl] at this
      exact this
    clear h k hb hl hf hca hz hcap hx hfi hh hrow hcell hA hcc hN hd hq hgb
    go_enter Try.func14, Try.ntmps14
    go_wp2_with (first
      | (go_at_call 18; refine (FG.out _ HG0.out).mono ?_; rintro e w1 ⟨rfl, hc⟩; have hb1 := HX0.out.quiet hc; obtain ⟨_, _, x1, x2, _⟩ := box_at (x := ⟨3, g, sl, tg, td, ⟨ck, ci, cg, cr⟩⟩) hb1; have hc1 := HG0.out.then hc; have HC2 := Lib.hid (hc1.alloc (.cells #[.int .i64 qk, .int .i64 qi, .int .u64 qg, .int .u8 (qr : Nat)] 39)); have HX1 := Lib.hid (hb1.quiet ((Chg.refl [] w1).alloc (.cells #[.int .i64 qk, .int .i64 qi, .int .u64 qg, .int .u8 (qr : Nat)] 39))); obtain ⟨l3, lb, lgb, l4, l5, l6, l7⟩ := HL.out _ HC2.out; clear hc hb1 hc1)
      | (go_at_call 43; refine (FE.out _ HC2.out).mono ?_; rintro e w2 ⟨rfl, rfl⟩))
    go_quiet ((go_at_call 27; exact Calls.quiet_of_same (FF.out _ (HC2.out.drewN _))))
    go_wp2
    go_ret
    exact HFIN.out _ (HC2.out.drewN _)
end
end Go.Proofs
end
section
namespace Go.Proofs
open Go.RowKit
set_option linter.unusedVariables false
set_option linter.unusedSimpArgs false
section
variable {w : World} {a b : Nat} {S T : List Nat} {s : Sp} {r : Rf} {m : Nat}
set_option maxHeartbeats 6400000 in
set_option maxRecDepth 100000 in
theorem do4 (h : SpAt w a S s) (k : RefAt w b T r) (hb : Both s r m) (hm : m ≤ 1000000) (g sl tg td : Int) {ck ci cg : Int} {cr : Nat} (hg : I64 g) (hcok : Cp.ok ⟨ck, ci, cg, cr⟩) :
    Calls Try.prog 14 #[ptr a, ptr b, .agg #[.int .i64 4, .int .i64 g, .int .i64 sl, .int .i64 tg, .int .i64 td, .int .i64 ck, .int .i64 ci, .int .u64 cg, .int .u8 (cr : Nat)]] w fun e w' => DoOut a b S T s m w e w' := by
  have apST := spaces_apart h k
  have apTS : ∀ x ∈ T, x ∉ S := fun x hx hxS => apST x hxS hx
  have hl : r.L.length ≤ 10000 := by have := hb.len512; omega
  have hs32 := hb.slots32
  have hcm : r.came ≤ 1000000 := by have := hb.came; omega
  have hrt := hb.rts
  have FA := Lib.hid (fun W (hc : Chg T w W) => (((free_is (h.chg hc apST) ⟨g, sl⟩).mono fun e w1 hh => ⟨hh.1, STurns.refl (h.chg hc apST) hh.2⟩) : Calls Try.prog 32 #[ptr a, .int .i64 g, .int .i64 sl] W fun e w' => e = .returned (.int .i64 (s.freeE ⟨g, sl⟩)) ∧ STurns a S (s) W w'))
  have FD := Lib.hid (fun W (hc : Chg S w W) => (((by have := rfree_is (k.chg hc apTS) (by omega) ⟨g, sl⟩; rw [hb.freeE ⟨g, sl⟩] at this; exact this.mono fun e w1 hh => ⟨hh.1, RTurns.refl (k.chg hc apTS) (by rw [hh.2]; exact Chg.refl _ _)⟩)) : Calls Try.prog 44 #[ptr b, .int .i64 g, .int .i64 sl] W fun e w' => e = .returned (.int .i64 (s.freeE ⟨g, sl⟩)) ∧ RTurns b T (r) W w'))
  have HB := Lib.hid (hb.one)
  have HSHP := Lib.hid (show ∀ s1, s1 = s → Shp s s1 from fun s1 e => by rw [e]; exact (show Shp s s from ⟨rfl, rfl, rfl⟩))
  have HSlt := Lib.hid h.lt
  have HTlt := Lib.hid k.lt
  have HH := Lib.hid h
  have HR := Lib.hid k
  obtain ⟨z, hz⟩ : ∃ z, z = s.freeE ⟨g, sl⟩ := ⟨_, rfl⟩
  rw [← hz] at FA FD
  obtain ⟨s1, hs1⟩ : ∃ s1, s1 = s := ⟨_, rfl⟩
  rw [← hs1] at FA HB
  have HSH := Lib.hid (HSHP.out s1 hs1)
  clear HSHP
  obtain ⟨r1, hr1⟩ : ∃ r1, r1 = r := ⟨_, rfl⟩
  rw [← hr1] at FD HB
  have hzz : (z == z) = true := by simp
  have HG0 := Lib.hid (Chg.drew ((Chg.refl [] w).alloc (.cells #[.int .i64 4, .int .i64 g, .int .i64 sl, .int .i64 tg, .int .i64 td, .int .i64 ck, .int .i64 ci, .int .u64 cg, .int .u8 (cr : Nat)] 41)))
  have HX0 := Lib.hid (Blk.drew (Blk.new w 41 #[.int .i64 4, .int .i64 g, .int .i64 sl, .int .i64 tg, .int .i64 td, .int .i64 ck, .int .i64 ci, .int .u64 cg, .int .u8 (cr : Nat)]))
  clear h k hb apST apTS hl hcm hrt hz hs1 hr1 hs32
  go_enter Try.func14, Try.ntmps14
  go_wp2
  go_region_held3 (fun w' => w'.cell? ⟨w.heap.size, 1, none⟩ = some (.int .i64 g) ∧ w'.cell? ⟨w.heap.size, 2, none⟩ = some (.int .i64 sl))
    (first | go_keep)
    (first
      | (go_at_call 32; refine (FA.out _ GD.out).mono ?_; rintro e w3 ⟨rfl, hT⟩; have HFIN := Lib.hid ((duo_dc (HH.out.quiet HG0.out) (HR.out.quiet HG0.out) HTD.out hT).earlier HG0.out); obtain ⟨_, _, y1, y2, y3, y4, y5, y6, y7, y8⟩ := box_at (x := ⟨4, g, sl, tg, td, ⟨ck, ci, cg, cr⟩⟩) (BD.out.chg hT.chg_ (fun hh => by have := HSlt.out _ hh; omega)); clear hT)
      | (go_at_call 44; refine (FD.out _ GC.out).mono ?_; rintro e w3 ⟨rfl, hT⟩; have HFIN := Lib.hid ((duo_cd (HH.out.quiet HG0.out) (HR.out.quiet HG0.out) HTC.out hT).earlier HG0.out); obtain ⟨_, _, y1, y2, y3, y4, y5, y6, y7, y8⟩ := box_at (x := ⟨4, g, sl, tg, td, ⟨ck, ci, cg, cr⟩⟩) (BC.out.chg hT.chg_ (fun hh => by have := HTlt.out _ hh; omega)); clear hT)
      | (go_at_call 32; refine (FA.out _ (Chg.any HG0.out)).mono ?_; rintro e w1 ⟨rfl, hT⟩; have hb1 := HX0.out.chg hT.chg_ (fun hh => by have := HSlt.out _ hh; omega); obtain ⟨_, _, x1, x2, x3, x4, x5, x6, x7, x8⟩ := box_at (x := ⟨4, g, sl, tg, td, ⟨ck, ci, cg, cr⟩⟩) hb1; have BC := Lib.hid hb1; have GC := Lib.hid ((Chg.any (S := S) HG0.out).trans hT.chg_ (fun j hj => .inl hj)); have HTC := Lib.hid hT; clear hT hb1)
      | (go_at_call 44; refine (FD.out _ (Chg.any HG0.out)).mono ?_; rintro e w1 ⟨rfl, hT⟩; have hb1 := HX0.out.chg hT.chg_ (fun hh => by have := HTlt.out _ hh; omega); obtain ⟨_, _, x1, x2, x3, x4, x5, x6, x7, x8⟩ := box_at (x := ⟨4, g, sl, tg, td, ⟨ck, ci, cg, cr⟩⟩) hb1; have BD := Lib.hid hb1; have GD := Lib.hid ((Chg.any (S := T) HG0.out).trans hT.chg_ (fun j hj => .inl hj)); have HTD := Lib.hid hT; clear hT hb1))
  all_goals
    go_wp2
    go_ret
    exact ⟨rfl, s1, r1, HFIN.out, HB.out, HSH.out⟩
end
end Go.Proofs
end
section
namespace Go.Proofs
open Go.RowKit
set_option linter.unusedVariables false
set_option linter.unusedSimpArgs false
section
variable {w : World} {a b : Nat} {S T : List Nat} {s : Sp} {r : Rf} {m : Nat}
set_option maxHeartbeats 6400000 in
set_option maxRecDepth 100000 in
theorem do5 (h : SpAt w a S s) (k : RefAt w b T r) (hb : Both s r m) (hm : m ≤ 1000000) (g sl tg td : Int) {ck ci cg : Int} {cr : Nat} (hg : I64 g) (hcok : Cp.ok ⟨ck, ci, cg, cr⟩) :
    Calls Try.prog 14 #[ptr a, ptr b, .agg #[.int .i64 5, .int .i64 g, .int .i64 sl, .int .i64 tg, .int .i64 td, .int .i64 ck, .int .i64 ci, .int .u64 cg, .int .u8 (cr : Nat)]] w fun e w' => DoOut a b S T s m w e w' := by
  have apST := spaces_apart h k
  have apTS : ∀ x ∈ T, x ∉ S := fun x hx hxS => apST x hxS hx
  have hl : r.L.length ≤ 10000 := by have := hb.len512; omega
  have hs32 := hb.slots32
  have hcm : r.came ≤ 1000000 := by have := hb.came; omega
  have hrt := hb.rts
  have FA := Lib.hid (fun W (hc : Chg T w W) => (move_any (h.chg hc apST) ⟨g, sl⟩ ⟨g, td⟩ rfl : Calls Try.prog 25 #[ptr a, .int .i64 g, .int .i64 sl, .int .i64 td] W fun e w' => e = .returned (.int .i64 (s.moveE ⟨g, sl⟩ ⟨g, td⟩)) ∧ STurns a S (s.movP ⟨g, sl⟩ ⟨g, td⟩) W w'))
  have FD := Lib.hid (fun W (hc : Chg S w W) => ((by have := rmove_any (k.chg hc apTS) hl ⟨g, sl⟩ ⟨g, td⟩ rfl; rw [(hb.move ⟨g, sl⟩ ⟨g, td⟩ rfl).1] at this; exact this) : Calls Try.prog 45 #[ptr b, .int .i64 g, .int .i64 sl, .int .i64 td] W fun e w' => e = .returned (.int .i64 (s.moveE ⟨g, sl⟩ ⟨g, td⟩)) ∧ RTurns b T (r.move ⟨g, sl⟩ ⟨g, td⟩) W w'))
  have HB := Lib.hid ((hb.move ⟨g, sl⟩ ⟨g, td⟩ rfl).2.one)
  have HSHP := Lib.hid (show ∀ s1, s1 = s.movP ⟨g, sl⟩ ⟨g, td⟩ → Shp s s1 from fun s1 e => by rw [e]; exact (shp_mov s ⟨g, sl⟩ ⟨g, td⟩))
  have HSlt := Lib.hid h.lt
  have HTlt := Lib.hid k.lt
  have HH := Lib.hid h
  have HR := Lib.hid k
  obtain ⟨z, hz⟩ : ∃ z, z = s.moveE ⟨g, sl⟩ ⟨g, td⟩ := ⟨_, rfl⟩
  rw [← hz] at FA FD
  obtain ⟨s1, hs1⟩ : ∃ s1, s1 = s.movP ⟨g, sl⟩ ⟨g, td⟩ := ⟨_, rfl⟩
  rw [← hs1] at FA HB
  have HSH := Lib.hid (HSHP.out s1 hs1)
  clear HSHP
  obtain ⟨r1, hr1⟩ : ∃ r1, r1 = r.move ⟨g, sl⟩ ⟨g, td⟩ := ⟨_, rfl⟩
  rw [← hr1] at FD HB
  have hzz : (z == z) = true := by simp
  have HG0 := Lib.hid (Chg.drew ((Chg.refl [] w).alloc (.cells #[.int .i64 5, .int .i64 g, .int .i64 sl, .int .i64 tg, .int .i64 td, .int .i64 ck, .int .i64 ci, .int .u64 cg, .int .u8 (cr : Nat)] 41)))
  have HX0 := Lib.hid (Blk.drew (Blk.new w 41 #[.int .i64 5, .int .i64 g, .int .i64 sl, .int .i64 tg, .int .i64 td, .int .i64 ck, .int .i64 ci, .int .u64 cg, .int .u8 (cr : Nat)]))
  clear h k hb apST apTS hl hcm hrt hz hs1 hr1 hs32
  go_enter Try.func14, Try.ntmps14
  go_wp2
  go_region_held3 (fun w' => w'.cell? ⟨w.heap.size, 1, none⟩ = some (.int .i64 g) ∧ w'.cell? ⟨w.heap.size, 2, none⟩ = some (.int .i64 sl) ∧ w'.cell? ⟨w.heap.size, 4, none⟩ = some (.int .i64 td))
    (first | go_keep)
    (first
      | (go_at_call 25; refine (FA.out _ GD.out).mono ?_; rintro e w3 ⟨rfl, hT⟩; have HFIN := Lib.hid ((duo_dc (HH.out.quiet HG0.out) (HR.out.quiet HG0.out) HTD.out hT).earlier HG0.out); obtain ⟨_, _, y1, y2, y3, y4, y5, y6, y7, y8⟩ := box_at (x := ⟨5, g, sl, tg, td, ⟨ck, ci, cg, cr⟩⟩) (BD.out.chg hT.chg_ (fun hh => by have := HSlt.out _ hh; omega)); clear hT)
      | (go_at_call 45; refine (FD.out _ GC.out).mono ?_; rintro e w3 ⟨rfl, hT⟩; have HFIN := Lib.hid ((duo_cd (HH.out.quiet HG0.out) (HR.out.quiet HG0.out) HTC.out hT).earlier HG0.out); obtain ⟨_, _, y1, y2, y3, y4, y5, y6, y7, y8⟩ := box_at (x := ⟨5, g, sl, tg, td, ⟨ck, ci, cg, cr⟩⟩) (BC.out.chg hT.chg_ (fun hh => by have := HTlt.out _ hh; omega)); clear hT)
      | (go_at_call 25; refine (FA.out _ (Chg.any HG0.out)).mono ?_; rintro e w1 ⟨rfl, hT⟩; have hb1 := HX0.out.chg hT.chg_ (fun hh => by have := HSlt.out _ hh; omega); obtain ⟨_, _, x1, x2, x3, x4, x5, x6, x7, x8⟩ := box_at (x := ⟨5, g, sl, tg, td, ⟨ck, ci, cg, cr⟩⟩) hb1; have BC := Lib.hid hb1; have GC := Lib.hid ((Chg.any (S := S) HG0.out).trans hT.chg_ (fun j hj => .inl hj)); have HTC := Lib.hid hT; clear hT hb1)
      | (go_at_call 45; refine (FD.out _ (Chg.any HG0.out)).mono ?_; rintro e w1 ⟨rfl, hT⟩; have hb1 := HX0.out.chg hT.chg_ (fun hh => by have := HTlt.out _ hh; omega); obtain ⟨_, _, x1, x2, x3, x4, x5, x6, x7, x8⟩ := box_at (x := ⟨5, g, sl, tg, td, ⟨ck, ci, cg, cr⟩⟩) hb1; have BD := Lib.hid hb1; have GD := Lib.hid ((Chg.any (S := T) HG0.out).trans hT.chg_ (fun j hj => .inl hj)); have HTD := Lib.hid hT; clear hT hb1))
  all_goals
    go_wp2
    go_ret
    exact ⟨rfl, s1, r1, HFIN.out, HB.out, HSH.out⟩
end
end Go.Proofs
end
section
namespace Go.Proofs
open Go.RowKit
set_option linter.unusedVariables false
set_option linter.unusedSimpArgs false
section
variable {w : World} {a b : Nat} {S T : List Nat} {s : Sp} {r : Rf} {m : Nat}
set_option maxHeartbeats 6400000 in
set_option maxRecDepth 100000 in
theorem do6 (h : SpAt w a S s) (k : RefAt w b T r) (hb : Both s r m) (hm : m ≤ 1000000) (g sl tg td : Int) {ck ci cg : Int} {cr : Nat} (hg : I64 g) (hcok : Cp.ok ⟨ck, ci, cg, cr⟩) :
    Calls Try.prog 14 #[ptr a, ptr b, .agg #[.int .i64 6, .int .i64 g, .int .i64 sl, .int .i64 tg, .int .i64 td, .int .i64 ck, .int .i64 ci, .int .u64 cg, .int .u8 (cr : Nat)]] w fun e w' => DoOut a b S T s m w e w' := by
  have apST := spaces_apart h k
  have apTS : ∀ x ∈ T, x ∉ S := fun x hx hxS => apST x hxS hx
  have hl : r.L.length ≤ 10000 := by have := hb.len512; omega
  have hs32 := hb.slots32
  have hcm : r.came ≤ 1000000 := by have := hb.came; omega
  have hrt := hb.rts
  have FA := Lib.hid (fun W (hc : Chg T w W) => (delete_any (h.chg hc apST) ⟨g, sl⟩ : Calls Try.prog 33 #[ptr a, .int .i64 g, .int .i64 sl] W fun e w' => e = .returned (.int .i64 (s.fullE ⟨g, sl⟩)) ∧ STurns a S (s.delP ⟨g, sl⟩) W w'))
  have FD := Lib.hid (fun W (hc : Chg S w W) => ((by have := rdelete_any (k.chg hc apTS) hl ⟨g, sl⟩; rw [hb.fullE ⟨g, sl⟩] at this; unfold Rf.delP; rw [hb.fullE ⟨g, sl⟩]; exact this) : Calls Try.prog 46 #[ptr b, .int .i64 g, .int .i64 sl] W fun e w' => e = .returned (.int .i64 (s.fullE ⟨g, sl⟩)) ∧ RTurns b T (r.delP ⟨g, sl⟩) W w'))
  have HB := Lib.hid ((hb.del ⟨g, sl⟩).one)
  have HSHP := Lib.hid (show ∀ s1, s1 = s.delP ⟨g, sl⟩ → Shp s s1 from fun s1 e => by rw [e]; exact (shp_del s ⟨g, sl⟩))
  have HSlt := Lib.hid h.lt
  have HTlt := Lib.hid k.lt
  have HH := Lib.hid h
  have HR := Lib.hid k
  obtain ⟨z, hz⟩ : ∃ z, z = s.fullE ⟨g, sl⟩ := ⟨_, rfl⟩
  rw [← hz] at FA FD
  obtain ⟨s1, hs1⟩ : ∃ s1, s1 = s.delP ⟨g, sl⟩ := ⟨_, rfl⟩
  rw [← hs1] at FA HB
  have HSH := Lib.hid (HSHP.out s1 hs1)
  clear HSHP
  obtain ⟨r1, hr1⟩ : ∃ r1, r1 = r.delP ⟨g, sl⟩ := ⟨_, rfl⟩
  rw [← hr1] at FD HB
  have hzz : (z == z) = true := by simp
  have HG0 := Lib.hid (Chg.drew ((Chg.refl [] w).alloc (.cells #[.int .i64 6, .int .i64 g, .int .i64 sl, .int .i64 tg, .int .i64 td, .int .i64 ck, .int .i64 ci, .int .u64 cg, .int .u8 (cr : Nat)] 41)))
  have HX0 := Lib.hid (Blk.drew (Blk.new w 41 #[.int .i64 6, .int .i64 g, .int .i64 sl, .int .i64 tg, .int .i64 td, .int .i64 ck, .int .i64 ci, .int .u64 cg, .int .u8 (cr : Nat)]))
  clear h k hb apST apTS hl hcm hrt hz hs1 hr1 hs32
  go_enter Try.func14, Try.ntmps14
  go_wp2
  go_region_held3 (fun w' => w'.cell? ⟨w.heap.size, 1, none⟩ = some (.int .i64 g) ∧ w'.cell? ⟨w.heap.size, 2, none⟩ = some (.int .i64 sl))
    (first | go_keep)
    (first
      | (go_at_call 33; refine (FA.out _ GD.out).mono ?_; rintro e w3 ⟨rfl, hT⟩; have HFIN := Lib.hid ((duo_dc (HH.out.quiet HG0.out) (HR.out.quiet HG0.out) HTD.out hT).earlier HG0.out); obtain ⟨_, _, y1, y2, y3, y4, y5, y6, y7, y8⟩ := box_at (x := ⟨6, g, sl, tg, td, ⟨ck, ci, cg, cr⟩⟩) (BD.out.chg hT.chg_ (fun hh => by have := HSlt.out _ hh; omega)); clear hT)
      | (go_at_call 46; refine (FD.out _ GC.out).mono ?_; rintro e w3 ⟨rfl, hT⟩; have HFIN := Lib.hid ((duo_cd (HH.out.quiet HG0.out) (HR.out.quiet HG0.out) HTC.out hT).earlier HG0.out); obtain ⟨_, _, y1, y2, y3, y4, y5, y6, y7, y8⟩ := box_at (x := ⟨6, g, sl, tg, td, ⟨ck, ci, cg, cr⟩⟩) (BC.out.chg hT.chg_ (fun hh => by have := HTlt.out _ hh; omega)); clear hT)
      | (go_at_call 33; refine (FA.out _ (Chg.any HG0.out)).mono ?_; rintro e w1 ⟨rfl, hT⟩; have hb1 := HX0.out.chg hT.chg_ (fun hh => by have := HSlt.out _ hh; omega); obtain ⟨_, _, x1, x2, x3, x4, x5, x6, x7, x8⟩ := box_at (x := ⟨6, g, sl, tg, td, ⟨ck, ci, cg, cr⟩⟩) hb1; have BC := Lib.hid hb1; have GC := Lib.hid ((Chg.any (S := S) HG0.out).trans hT.chg_ (fun j hj => .inl hj)); have HTC := Lib.hid hT; clear hT hb1)
      | (go_at_call 46; refine (FD.out _ (Chg.any HG0.out)).mono ?_; rintro e w1 ⟨rfl, hT⟩; have hb1 := HX0.out.chg hT.chg_ (fun hh => by have := HTlt.out _ hh; omega); obtain ⟨_, _, x1, x2, x3, x4, x5, x6, x7, x8⟩ := box_at (x := ⟨6, g, sl, tg, td, ⟨ck, ci, cg, cr⟩⟩) hb1; have BD := Lib.hid hb1; have GD := Lib.hid ((Chg.any (S := T) HG0.out).trans hT.chg_ (fun j hj => .inl hj)); have HTD := Lib.hid hT; clear hT hb1))
  all_goals
    go_wp2
    go_ret
    exact ⟨rfl, s1, r1, HFIN.out, HB.out, HSH.out⟩
end
end Go.Proofs
end
section
namespace Go.Proofs
open Go.RowKit
set_option linter.unusedVariables false
set_option linter.unusedSimpArgs false
section
variable {w : World} {a b : Nat} {S T : List Nat} {s : Sp} {r : Rf} {m : Nat}
/-- Revoke in both: the same is told, and both are turned alike. -/
theorem revoke_both (k : RefAt w b T r) (hb : Both s r m) (p : Pt) {l : List Nat} (hl : s.Goes p l) : ∃ r1, Both (s.revP p l) r1 m ∧ ∀ W, RefAt W b T r → Calls Try.prog 47 #[ptr b, .int .i64 p.g, .int .i64 p.s] W fun e w' => e = .returned (.tuple #[.int .i64 ((l.length : Nat) : Int), .int .i64 (s.fullE p)]) ∧ RTurns b T r1 W w' := by
  have hlen : r.L.length ≤ 10000 := by have := hb.len512; omega
  unfold Sp.Goes at hl
  unfold Sp.revP
  cases hf : s.f p with
  | none =>
    rw [hf] at hl
    subst hl
    have hz := Sp.full_none hf
    refine ⟨r, hb, fun W H => ?_⟩
    have := rrevoke_no H hlen p (by rw [hb.fullE]; exact hz)
    rw [hb.fullE] at this
    exact this.mono fun e w' hh => ⟨hh.1, RTurns.refl H (by rw [hh.2]; exact Chg.refl _ _)⟩
  | some n =>
    rw [hf] at hl
    have hz := Sp.full_some (hb.wf.slot_of hf) hf
    obtain ⟨abv, h1, h2, h3⟩ := hb.revoke hf hl
    refine ⟨_, h3, fun W H => ?_⟩
    have := rrevoke_ok H hlen p (by rw [hb.fullE]; exact hz) h1
    rw [h2] at this
    rw [hz]
    exact this
set_option maxHeartbeats 6400000 in
set_option maxRecDepth 100000 in
theorem do7 (h : SpAt w a S s) (k : RefAt w b T r) (hb : Both s r m) (hm : m ≤ 1000000) (g sl tg td : Int) {ck ci cg : Int} {cr : Nat} :
    Calls Try.prog 14 #[ptr a, ptr b, .agg #[.int .i64 7, .int .i64 g, .int .i64 sl, .int .i64 tg, .int .i64 td, .int .i64 ck, .int .i64 ci, .int .u64 cg, .int .u8 (cr : Nat)]] w fun e w' => DoOut a b S T s m w e w' := by
  have apST := spaces_apart h k
  have apTS : ∀ x ∈ T, x ∉ S := fun x hx hxS => apST x hxS hx
  obtain ⟨l, hl⟩ := Sp.Goes.exists hb.twf ⟨g, sl⟩
  obtain ⟨r1, hb1, hrv⟩ := revoke_both k hb ⟨g, sl⟩ hl
  have FA := Lib.hid (fun W (hc : Chg [] w W) => (revoke_any (h.quiet hc) ⟨g, sl⟩ hl : Calls Try.prog 21 #[ptr a, .int .i64 g, .int .i64 sl] W fun e w' => e = .returned (.tuple #[.int .i64 (l.length : Nat), .int .i64 (s.fullE ⟨g, sl⟩)]) ∧ STurns a S (s.revP ⟨g, sl⟩ l) W w'))
  have FD := Lib.hid (fun W (hc : Chg S w W) => (hrv W (k.chg hc apTS) : Calls Try.prog 47 #[ptr b, .int .i64 g, .int .i64 sl] W fun e w' => e = .returned (.tuple #[.int .i64 (l.length : Nat), .int .i64 (s.fullE ⟨g, sl⟩)]) ∧ RTurns b T r1 W w'))
  have HB := Lib.hid hb1.one
  have HSH := Lib.hid (shp_rev s ⟨g, sl⟩ l)
  have HSlt := Lib.hid h.lt
  have HH := Lib.hid h
  have HR := Lib.hid k
  obtain ⟨z, hz⟩ : ∃ z, z = s.fullE ⟨g, sl⟩ := ⟨_, rfl⟩
  rw [← hz] at FA FD
  obtain ⟨N, hN⟩ : ∃ z, z = l.length := ⟨_, rfl⟩
  rw [← hN] at FA FD
  obtain ⟨s1, hs1⟩ : ∃ s1, s1 = s.revP ⟨g, sl⟩ l := ⟨_, rfl⟩
  rw [← hs1] at FA HB HSH
  have hzz : (z == z) = true := by simp
  have hNN : ((N : Int) == (N : Int)) = true := by simp
  have HG0 := Lib.hid ((Chg.refl [] w).alloc (.cells #[.int .i64 7, .int .i64 g, .int .i64 sl, .int .i64 tg, .int .i64 td, .int .i64 ck, .int .i64 ci, .int .u64 cg, .int .u8 (cr : Nat)] 41))
  have HX0 := Lib.hid (Blk.new w 41 #[.int .i64 7, .int .i64 g, .int .i64 sl, .int .i64 tg, .int .i64 td, .int .i64 ck, .int .i64 ci, .int .u64 cg, .int .u8 (cr : Nat)])
  clear h k hb apST apTS hz hs1 hl hN hb1 hrv
  go_enter Try.func14, Try.ntmps14
  go_wp2_with (first
    | (go_at_call 21; refine (FA.out _ HG0.out).mono ?_; rintro e w1 ⟨rfl, hT⟩; have hb1 := HX0.out.chg hT.chg_ (fun hh => by have := HSlt.out _ hh; omega); obtain ⟨_, _, x1, x2, x3, x4, x5, x6, x7, x8⟩ := box_at (x := ⟨7, g, sl, tg, td, ⟨ck, ci, cg, cr⟩⟩) hb1; have hlx := hb1.lt; have GC := Lib.hid ((Chg.any (S := S) HG0.out).trans hT.chg_ (fun j hj => .inl hj)); have HTC := Lib.hid hT; clear hT hb1)
    | (go_at_call 47; refine (FD.out _ GC.out).mono ?_; rintro e w3 ⟨rfl, hT⟩; have HFIN := Lib.hid ((duo_cd (HH.out.quiet HG0.out) (HR.out.quiet HG0.out) HTC.out hT).earlier HG0.out); clear hT))
  go_ret
  exact ⟨rfl, s1, r1, HFIN.out, HB.out, HSH.out⟩
end
end Go.Proofs
end
section
namespace Go.Proofs
open Go.RowKit
set_option linter.unusedVariables false
set_option linter.unusedSimpArgs false
section
variable {w : World} {a b : Nat} {S T : List Nat} {s : Sp} {r : Rf} {m : Nat}
set_option maxHeartbeats 6400000 in
set_option maxRecDepth 100000 in
theorem do8 (h : SpAt w a S s) (k : RefAt w b T r) (hb : Both s r m) (hm : m ≤ 1000000) (g sl tg td : Int) {ck ci cg : Int} {cr : Nat} (hg : I64 g) (hcok : Cp.ok ⟨ck, ci, cg, cr⟩) :
    Calls Try.prog 14 #[ptr a, ptr b, .agg #[.int .i64 8, .int .i64 g, .int .i64 sl, .int .i64 tg, .int .i64 td, .int .i64 ck, .int .i64 ci, .int .u64 cg, .int .u8 (cr : Nat)]] w fun e w' => DoOut a b S T s m w e w' := by
  have apST := spaces_apart h k
  have apTS : ∀ x ∈ T, x ∉ S := fun x hx hxS => apST x hxS hx
  have hl : r.L.length ≤ 10000 := by have := hb.len512; omega
  have hs32 := hb.slots32
  have hcm : r.came ≤ 1000000 := by have := hb.came; omega
  have hrt := hb.rts
  have FA := Lib.hid (fun W (hc : Chg T w W) => (clear_any (h.chg hc apST) hg : Calls Try.prog 34 #[ptr a, .int .i64 g] W fun e w' => e = .returned (.int .i64 (((s.caps g).length : Nat))) ∧ STurns a S (s.clear g (s.caps g)) W w'))
  have FD := Lib.hid (fun W (hc : Chg S w W) => ((by have := rclear_any (k.chg hc apTS) hl hs32 g; rw [hb.caps] at this ⊢; exact this) : Calls Try.prog 48 #[ptr b, .int .i64 g] W fun e w' => e = .returned (.int .i64 (((s.caps g).length : Nat))) ∧ RTurns b T (r.clear g (r.caps g)) W w'))
  have HB := Lib.hid ((hb.clear g).one)
  have HSHP := Lib.hid (show ∀ s1, s1 = s.clear g (s.caps g) → Shp s s1 from fun s1 e => by rw [e]; exact (shp_clear g (s.caps g) s))
  have HSlt := Lib.hid h.lt
  have HTlt := Lib.hid k.lt
  have HH := Lib.hid h
  have HR := Lib.hid k
  obtain ⟨z, hz⟩ : ∃ z, z = ((s.caps g).length : Nat) := ⟨_, rfl⟩
  rw [← hz] at FA FD
  obtain ⟨s1, hs1⟩ : ∃ s1, s1 = s.clear g (s.caps g) := ⟨_, rfl⟩
  rw [← hs1] at FA HB
  have HSH := Lib.hid (HSHP.out s1 hs1)
  clear HSHP
  obtain ⟨r1, hr1⟩ : ∃ r1, r1 = r.clear g (r.caps g) := ⟨_, rfl⟩
  rw [← hr1] at FD HB
  have hzz : (z == z) = true := by simp
  have HG0 := Lib.hid (Chg.drew ((Chg.refl [] w).alloc (.cells #[.int .i64 8, .int .i64 g, .int .i64 sl, .int .i64 tg, .int .i64 td, .int .i64 ck, .int .i64 ci, .int .u64 cg, .int .u8 (cr : Nat)] 41)))
  have HX0 := Lib.hid (Blk.drew (Blk.new w 41 #[.int .i64 8, .int .i64 g, .int .i64 sl, .int .i64 tg, .int .i64 td, .int .i64 ck, .int .i64 ci, .int .u64 cg, .int .u8 (cr : Nat)]))
  clear h k hb apST apTS hl hcm hrt hz hs1 hr1 hs32
  go_enter Try.func14, Try.ntmps14
  go_wp2
  go_region_held3 (fun w' => w'.cell? ⟨w.heap.size, 1, none⟩ = some (.int .i64 g))
    (first | go_keep)
    (first
      | (go_at_call 34; refine (FA.out _ GD.out).mono ?_; rintro e w3 ⟨rfl, hT⟩; have HFIN := Lib.hid ((duo_dc (HH.out.quiet HG0.out) (HR.out.quiet HG0.out) HTD.out hT).earlier HG0.out); obtain ⟨_, _, y1, y2, y3, y4, y5, y6, y7, y8⟩ := box_at (x := ⟨8, g, sl, tg, td, ⟨ck, ci, cg, cr⟩⟩) (BD.out.chg hT.chg_ (fun hh => by have := HSlt.out _ hh; omega)); clear hT)
      | (go_at_call 48; refine (FD.out _ GC.out).mono ?_; rintro e w3 ⟨rfl, hT⟩; have HFIN := Lib.hid ((duo_cd (HH.out.quiet HG0.out) (HR.out.quiet HG0.out) HTC.out hT).earlier HG0.out); obtain ⟨_, _, y1, y2, y3, y4, y5, y6, y7, y8⟩ := box_at (x := ⟨8, g, sl, tg, td, ⟨ck, ci, cg, cr⟩⟩) (BC.out.chg hT.chg_ (fun hh => by have := HTlt.out _ hh; omega)); clear hT)
      | (go_at_call 34; refine (FA.out _ (Chg.any HG0.out)).mono ?_; rintro e w1 ⟨rfl, hT⟩; have hb1 := HX0.out.chg hT.chg_ (fun hh => by have := HSlt.out _ hh; omega); obtain ⟨_, _, x1, x2, x3, x4, x5, x6, x7, x8⟩ := box_at (x := ⟨8, g, sl, tg, td, ⟨ck, ci, cg, cr⟩⟩) hb1; have BC := Lib.hid hb1; have GC := Lib.hid ((Chg.any (S := S) HG0.out).trans hT.chg_ (fun j hj => .inl hj)); have HTC := Lib.hid hT; clear hT hb1)
      | (go_at_call 48; refine (FD.out _ (Chg.any HG0.out)).mono ?_; rintro e w1 ⟨rfl, hT⟩; have hb1 := HX0.out.chg hT.chg_ (fun hh => by have := HTlt.out _ hh; omega); obtain ⟨_, _, x1, x2, x3, x4, x5, x6, x7, x8⟩ := box_at (x := ⟨8, g, sl, tg, td, ⟨ck, ci, cg, cr⟩⟩) hb1; have BD := Lib.hid hb1; have GD := Lib.hid ((Chg.any (S := T) HG0.out).trans hT.chg_ (fun j hj => .inl hj)); have HTD := Lib.hid hT; clear hT hb1))
  all_goals
    go_wp2
    go_ret
    exact ⟨rfl, s1, r1, HFIN.out, HB.out, HSH.out⟩
end
end Go.Proofs
end
section
namespace Go.Proofs
open Go.RowKit
set_option linter.unusedVariables false
set_option linter.unusedSimpArgs false
section
variable {w : World} {a b : Nat} {S T : List Nat} {s : Sp} {r : Rf} {m : Nat}
set_option maxHeartbeats 3200000 in
set_option maxRecDepth 100000 in
theorem do0 (h : SpAt w a S s) (k : RefAt w b T r) (hb : Both s r m) (kd g sl tg td : Int) {ck ci cg : Int} {cr : Nat} (h1 : kd ≠ 1) (h2 : kd ≠ 2) (h3 : kd ≠ 3) (h4 : kd ≠ 4) (h5 : kd ≠ 5) (h6 : kd ≠ 6) (h7 : kd ≠ 7) (h8 : kd ≠ 8) :
    Calls Try.prog 14 #[ptr a, ptr b, .agg #[.int .i64 kd, .int .i64 g, .int .i64 sl, .int .i64 tg, .int .i64 td, .int .i64 ck, .int .i64 ci, .int .u64 cg, .int .u8 (cr : Nat)]] w fun e w' => DoOut a b S T s m w e w' := by
  have HFIN := Lib.hid (fun W (hc : Chg [] w W) => show DoOut a b S T s m w (.returned (.bool true)) W from ⟨rfl, s, r, PTurns.refl h k hc, hb.one, rfl, rfl, rfl⟩)
  have HG0 := Lib.hid (((Chg.refl [] w).alloc (.cells #[.int .i64 kd, .int .i64 g, .int .i64 sl, .int .i64 tg, .int .i64 td, .int .i64 ck, .int .i64 ci, .int .u64 cg, .int .u8 (cr : Nat)] 41)))
  have e1 : (kd == 1) = false := by simpa using h1
  have e2 : (kd == 2) = false := by simpa using h2
  have e3 : (kd == 3) = false := by simpa using h3
  have e4 : (kd == 4) = false := by simpa using h4
  have e5 : (kd == 5) = false := by simpa using h5
  have e6 : (kd == 6) = false := by simpa using h6
  have e7 : (kd == 7) = false := by simpa using h7
  have e8 : (kd == 8) = false := by simpa using h8
  clear h k hb h1 h2 h3 h4 h5 h6 h7 h8
  go_enter Try.func14, Try.ntmps14
  go_wp2
  go_ret
  exact HFIN.out _ HG0.out
/-- Every act is answered alike by both, and turns both alike. -/
theorem do_any (h : SpAt w a S s) (k : RefAt w b T r) (hb : Both s r m) (hm : m ≤ 1000000) {x : ActC} (hx : x.Fits) :
    Calls Try.prog 14 #[ptr a, ptr b, x.val] w fun e w' => DoOut a b S T s m w e w' := by
  obtain ⟨kd, g, sl, tg, td, ⟨ck, ci, cg, cr⟩⟩ := x
  obtain ⟨hg, _, _, _, hc⟩ := hx
  simp only at hg hc
  by_cases h1 : kd = 1
  · subst h1; exact do1 h k hb hm g sl tg td hg hc
  by_cases h2 : kd = 2
  · subst h2; exact do2 h k hb hm g sl tg td hg hc
  by_cases h3 : kd = 3
  · subst h3; exact do3 h k hb hm g sl tg td
  by_cases h4 : kd = 4
  · subst h4; exact do4 h k hb hm g sl tg td hg hc
  by_cases h5 : kd = 5
  · subst h5; exact do5 h k hb hm g sl tg td hg hc
  by_cases h6 : kd = 6
  · subst h6; exact do6 h k hb hm g sl tg td hg hc
  by_cases h7 : kd = 7
  · subst h7; exact do7 h k hb hm g sl tg td
  by_cases h8 : kd = 8
  · subst h8; exact do8 h k hb hm g sl tg td hg hc
  exact do0 h k hb kd g sl tg td h1 h2 h3 h4 h5 h6 h7 h8
end
end Go.Proofs
end
section
namespace Go.Proofs
open Go.RowKit
set_option linter.unusedVariables false
set_option linter.unusedSimpArgs false

/-! ### What the laws begin with -/
def c0 : Cp := ⟨1, 1, 1, 255⟩
theorem c0_ok : c0.ok := by refine ⟨⟨?_, ?_⟩, ⟨?_, ?_⟩, ?_, ?_, ?_⟩ <;> decide
theorem cap0_any (w : World) : Calls Try.prog 30 #[] w fun e w' => e = .returned c0.val ∧ Chg [] w w' := by
  have hb := Blk.new w 39 #[.int .i64 0, .int .i64 0, .int .u64 0, .int .u8 0]
  have q0 := ((((hb.set_ 0 (.int .i64 1)).set_ 1 (.int .i64 1)).set_ 2 (.int .u64 1)).set_ 3 (.int .u8 255))
  have y0 := q0.cell 0
  have y1 := q0.cell 1
  have y2 := q0.cell 2
  have y3 := q0.cell 3
  simp only [Array.setIfInBounds] at y0 y1 y2 y3
  clear hb q0
  go_enter Try.func30, Try.ntmps30
  go_wp2
  refine bodyPost_ret (v := .agg #[.int .i64 1, .int .i64 1, .int .u64 1, .int .u8 255]) ?_ rfl ⟨rfl, ?_⟩
  · simp [results, Try.results30, go_sem]
  · exact (Chg.refl _ _).alloc _
def mayG (gs slots nodes : Int) : Bool := decide ((1 ≤ gs ∧ gs ≤ 64) ∧ (1 ≤ slots ∧ slots ≤ 32) ∧ 1 ≤ nodes ∧ nodes ≤ 512)
theorem lmay_any (gs slots nodes : Int) (w : World) : Calls Try.prog 10 #[.int .i64 gs, .int .i64 slots, .int .i64 nodes] w fun e w' => e = .returned (.bool (mayG gs slots nodes)) ∧ w' = w := by
  obtain ⟨z, hz⟩ : ∃ z, z = mayG gs slots nodes := ⟨_, rfl⟩
  rw [← hz]
  have HZ := Lib.hid hz
  clear hz
  by_cases h1 : 1 ≤ gs
  · have d1 : decide (1 ≤ gs) = true := decide_eq_true h1
    have d1' : decide (gs ≥ 1) = true := decide_eq_true h1
    by_cases h2 : gs ≤ 64
    · have d2 : decide (gs ≤ 64) = true := decide_eq_true h2
      by_cases h3 : 1 ≤ slots
      · have d3 : decide (1 ≤ slots) = true := decide_eq_true h3
        have d3' : decide (slots ≥ 1) = true := decide_eq_true h3
        by_cases h4 : slots ≤ 32
        · have d4 : decide (slots ≤ 32) = true := decide_eq_true h4
          by_cases h5 : 1 ≤ nodes
          · have d5 : decide (1 ≤ nodes) = true := decide_eq_true h5
            have d5' : decide (nodes ≥ 1) = true := decide_eq_true h5
            by_cases h6 : nodes ≤ 512
            · have d6 : decide (nodes ≤ 512) = true := decide_eq_true h6
              obtain rfl : z = true := HZ.out.trans (decide_eq_true ⟨⟨h1, h2⟩, ⟨h3, h4⟩, h5, h6⟩)
              go_enter Try.func10, Try.ntmps10
              go_wp2
              go_ret
              exact ⟨rfl, rfl⟩
            · have d6 : decide (nodes ≤ 512) = false := decide_eq_false h6
              obtain rfl : z = false := HZ.out.trans (decide_eq_false (fun h => h6 h.2.2.2))
              go_enter Try.func10, Try.ntmps10
              go_wp2
              go_ret
              exact ⟨rfl, rfl⟩
          · have d5 : decide (1 ≤ nodes) = false := decide_eq_false h5
            have d5' : decide (nodes ≥ 1) = false := decide_eq_false h5
            obtain rfl : z = false := HZ.out.trans (decide_eq_false (fun h => h5 h.2.2.1))
            go_enter Try.func10, Try.ntmps10
            go_wp2
            go_ret
            exact ⟨rfl, rfl⟩
        · have d4 : decide (slots ≤ 32) = false := decide_eq_false h4
          obtain rfl : z = false := HZ.out.trans (decide_eq_false (fun h => h4 h.2.1.2))
          go_enter Try.func10, Try.ntmps10
          go_wp2
          go_ret
          exact ⟨rfl, rfl⟩
      · have d3 : decide (1 ≤ slots) = false := decide_eq_false h3
        have d3' : decide (slots ≥ 1) = false := decide_eq_false h3
        obtain rfl : z = false := HZ.out.trans (decide_eq_false (fun h => h3 h.2.1.1))
        go_enter Try.func10, Try.ntmps10
        go_wp2
        go_ret
        exact ⟨rfl, rfl⟩
    · have d2 : decide (gs ≤ 64) = false := decide_eq_false h2
      obtain rfl : z = false := HZ.out.trans (decide_eq_false (fun h => h2 h.1.2))
      go_enter Try.func10, Try.ntmps10
      go_wp2
      go_ret
      exact ⟨rfl, rfl⟩
  · have d1 : decide (1 ≤ gs) = false := decide_eq_false h1
    have d1' : decide (gs ≥ 1) = false := decide_eq_false h1
    obtain rfl : z = false := HZ.out.trans (decide_eq_false (fun h => h1 h.1.1))
    go_enter Try.func10, Try.ntmps10
    go_wp2
    go_ret
    exact ⟨rfl, rfl⟩
def smallG (gs slots nodes : Int) : Bool := mayG gs slots nodes && decide (gs ≤ 8) && decide (slots ≤ 8)
theorem small_any (gs slots nodes : Int) (w : World) : Calls Try.prog 13 #[.int .i64 gs, .int .i64 slots, .int .i64 nodes] w fun e w' => e = .returned (.bool (smallG gs slots nodes)) ∧ w' = w := by
  have HM := lmay_any gs slots nodes w
  unfold smallG
  obtain ⟨z, hz⟩ : ∃ z, z = mayG gs slots nodes := ⟨_, rfl⟩
  obtain ⟨y, hy⟩ : ∃ y, y = decide (gs ≤ 8) := ⟨_, rfl⟩
  obtain ⟨x, hx⟩ : ∃ x, x = decide (slots ≤ 8) := ⟨_, rfl⟩
  rw [← hz] at HM ⊢
  rw [← hy, ← hx]
  have d1 := hy.symm
  have d2 := hx.symm
  clear hz hy hx
  cases z <;> cases y <;> cases x <;>
  (go_enter Try.func13, Try.ntmps13
   go_wp2_with (go_at_call 10; refine HM.mono ?_; rintro e w' ⟨rfl, rfl⟩)
   go_ret
   exact ⟨rfl, rfl⟩)
/-- Both, and both are new. -/
def BegunOk (gs slots nodes : Nat) (w : World) (e : Ending) (w' : World) : Prop := ∃ a b S T, e = .returned (.tuple #[ptr a, ptr b]) ∧ SpAt w' a S (sp0 gs slots nodes) ∧ RefAt w' b T (rf0 gs slots nodes) ∧ (∀ k ∈ S, w.heap.size ≤ k) ∧ (∀ k ∈ T, w.heap.size ≤ k) ∧ Chg [] w w'
theorem begin_ok (gs slots nodes : Nat) (h1 : 1 ≤ gs ∧ gs ≤ 64) (h2 : 1 ≤ slots ∧ slots ≤ 32) (h3 : 1 ≤ nodes ∧ nodes ≤ 512) (w : World) :
    Calls Try.prog 9 #[.int .i64 (gs : Nat), .int .i64 (slots : Nat), .int .i64 (nodes : Nat)] w fun e w' => BegunOk gs slots nodes w e w' := by
  have HN := snew_ok gs slots nodes h1 h2 h3 w
  have HR := Lib.hid (rnew_any gs slots nodes)
  clear h1 h2 h3
  go_enter Try.func9, Try.ntmps9
  go_wp2_with (first
    | (go_at_call 11; refine HN.mono ?_; rintro e w1 ⟨a, S, rfl, hA, hS, hc⟩; have HA := Lib.hid hA; have HS := Lib.hid hS; have HC := Lib.hid hc; clear hA hS hc)
    | (go_at_call 38; refine (HR.out _).mono ?_; rintro e w2 ⟨b, T, rfl, hB, hT, hc⟩; have HB := Lib.hid hB; have HT := Lib.hid hT; have HC2 := Lib.hid hc; clear hB hT hc))
  go_ret2
  exact ⟨a, b, S, T, rfl, HA.out.quiet HC2.out, HB.out, HS.out, fun k hk => Nat.le_trans HC.out.size (HT.out k hk), HC.out.then HC2.out⟩
theorem begin_no {gs slots nodes : Int} (hb : mayG gs slots nodes = false) (w : World) :
    Calls Try.prog 9 #[.int .i64 gs, .int .i64 slots, .int .i64 nodes] w fun e w' => e = .returned (.tuple #[.pointer none, .pointer none]) ∧ w' = w := by
  have HN := snew_bad (of_decide_eq_false hb) w
  clear hb
  go_enter Try.func9, Try.ntmps9
  go_wp2_with (go_at_call 11; refine HN.mono ?_; rintro e w1 ⟨rfl, rfl⟩)
  go_ret2
  exact ⟨rfl, rfl⟩
end Go.Proofs
end
section
namespace Go.Proofs
open Go.RowKit
set_option linter.unusedVariables false
set_option linter.unusedSimpArgs false

/-! ### Two of the code's spaces, apart, in blocks that were laid since w -/
def C2 (w W : World) (a : Nat) (s : Sp) (o : Nat) (u : Sp) : Prop :=
  ∃ S So, SpAt W a S s ∧ SpAt W o So u ∧ (∀ k ∈ S, w.heap.size ≤ k) ∧ (∀ k ∈ So, w.heap.size ≤ k) ∧ (∀ k ∈ S, k ∉ So) ∧ Chg [] w W
def C1 (w W : World) (a : Nat) (s : Sp) : Prop := ∃ S, SpAt W a S s ∧ (∀ k ∈ S, w.heap.size ≤ k) ∧ Chg [] w W
section
variable {w W W' : World} {a o : Nat} {s s' u u' : Sp}
theorem C1.chg (h : C1 w W a s) : Chg [] w W := by obtain ⟨_, _, _, h⟩ := h; exact h
theorem C1.quiet (h : C1 w W a s) (hc : Chg [] W W') : C1 w W' a s := by
  obtain ⟨S, h1, h2, h3⟩ := h
  exact ⟨S, h1.quiet hc, h2, h3.then hc⟩
theorem C1.turn (h : C1 w W a s) (f : ∀ S, SpAt W a S s → STurns a S s' W W') : C1 w W' a s' := by
  obtain ⟨S, h1, h2, h3⟩ := h
  obtain ⟨S', q1, q2, q3⟩ := f S h1
  refine ⟨S', q1, fun k hk => ?_, h3.trans q3 (fun k hk => .inr (h2 k hk))⟩
  rcases q2 k hk with h | h
  · exact h2 k h
  · exact Nat.le_trans h3.size h
theorem C2.chg (h : C2 w W a s o u) : Chg [] w W := by obtain ⟨_, _, _, _, _, _, _, h⟩ := h; exact h
theorem C2.symm (h : C2 w W a s o u) : C2 w W o u a s := by
  obtain ⟨S, So, h1, h2, h3, h4, h5, h6⟩ := h
  exact ⟨So, S, h2, h1, h4, h3, fun k hk hkS => h5 k hkS hk, h6⟩
theorem C2.quiet (h : C2 w W a s o u) (hc : Chg [] W W') : C2 w W' a s o u := by
  obtain ⟨S, So, h1, h2, h3, h4, h5, h6⟩ := h
  exact ⟨S, So, h1.quiet hc, h2.quiet hc, h3, h4, h5, h6.then hc⟩
theorem C2.turn (h : C2 w W a s o u) (f : ∀ S, SpAt W a S s → STurns a S s' W W') : C2 w W' a s' o u := by
  obtain ⟨S, So, h1, h2, h3, h4, h5, h6⟩ := h
  obtain ⟨S', q1, q2, q3⟩ := f S h1
  have hlo := h2.lt
  refine ⟨S', So, q1, h2.chg q3 (fun k hk hkS => h5 k hkS hk), fun k hk => ?_, h4, fun k hk hko => ?_, h6.trans q3 (fun k hk => .inr (h3 k hk))⟩
  · rcases q2 k hk with h | h
    · exact h3 k h
    · exact Nat.le_trans h6.size h
  · rcases q2 k hk with h | h
    · exact h5 k h hko
    · have := hlo k hko; omega
theorem C1.root (h : C1 w W a s) (p : Pt) {c : Cp} (hc : c.ok) {z : Int} (hz : s.rootE p c = z) : Calls Try.prog 29 #[ptr a, .int .i64 p.g, .int .i64 p.s, c.val] W fun e W' => e = .returned (.int .i64 z) ∧ C1 w W' a (s.root p c) := by
  have hh := h
  obtain ⟨S, h1, h2, h3⟩ := h
  rw [← hz]
  obtain ⟨S0, g1, _⟩ := hh
  refine (root_any h1 p hc).mono fun e W' hq => ⟨hq.1, ?_⟩
  obtain ⟨S', q1, q2, q3⟩ := hq.2
  refine ⟨S', q1, fun k hk => ?_, h3.trans q3 (fun k hk => .inr (h2 k hk))⟩
  rcases q2 k hk with h | h
  · exact h2 k h
  · exact Nat.le_trans h3.size h
theorem C1.derive (h : C1 w W a s) (p q : Pt) {c : Cp} (hc : c.ok) {z : Int} (hz : s.deriveE p q c = z) : Calls Try.prog 31 #[ptr a, .int .i64 p.g, .int .i64 p.s, .int .i64 q.g, .int .i64 q.s, c.val] W fun e W' => e = .returned (.int .i64 z) ∧ C1 w W' a (s.derive p q c) := by
  obtain ⟨S, h1, h2, h3⟩ := h
  rw [← hz]
  refine (derive_any h1 p q hc).mono fun e W' hq => ⟨hq.1, ?_⟩
  obtain ⟨S', q1, q2, q3⟩ := hq.2
  refine ⟨S', q1, fun k hk => ?_, h3.trans q3 (fun k hk => .inr (h2 k hk))⟩
  rcases q2 k hk with h | h
  · exact h2 k h
  · exact Nat.le_trans h3.size h
theorem C1.copy (h : C1 w W a s) : Calls Try.prog 20 #[ptr a] W fun e W' => ∃ o, e = .returned (ptr o) ∧ C2 w W' a s o s := by
  obtain ⟨S, h1, h2, h3⟩ := h
  have hlt := h1.lt
  have hsz := h3.size
  refine (scopy_any h1).mono ?_
  rintro e W' ⟨o, So, rfl, q1, q2, q3⟩
  exact ⟨o, rfl, S, So, h1.quiet q3, q1, h2, fun k hk => by have := q2 k hk; omega, fun k hk hko => by have := hlt k hk; have := q2 k hko; omega, h3.then q3⟩
/-- A step of the first of two, from what it does to one. -/
theorem C2.step {f : FuncId} {args : Array Value} {E : Ending} (h : C2 w W a s o u) (hf : ∀ S, SpAt W a S s → Calls Try.prog f args W fun e W' => e = E ∧ STurns a S s' W W') : Calls Try.prog f args W fun e W' => e = E ∧ C2 w W' a s' o u := by
  obtain ⟨S, So, h1, h2, h3, h4, h5, h6⟩ := h
  refine (hf S h1).mono fun e W' hq => ⟨hq.1, ?_⟩
  obtain ⟨S', q1, q2, q3⟩ := hq.2
  have hlo := h2.lt
  refine ⟨S', So, q1, h2.chg q3 (fun k hk hkS => h5 k hkS hk), fun k hk => ?_, h4, fun k hk hko => ?_, h6.trans q3 (fun k hk => .inr (h3 k hk))⟩
  · rcases q2 k hk with h | h
    · exact h3 k h
    · exact Nat.le_trans h6.size h
  · rcases q2 k hk with h | h
    · exact h5 k h hko
    · have := hlo k hko; omega
theorem C2.look {f : FuncId} {args : Array Value} {E : Ending} (h : C2 w W a s o u) (hf : ∀ S, SpAt W a S s → Calls Try.prog f args W fun e W' => e = E ∧ Chg [] W W') : Calls Try.prog f args W fun e W' => e = E ∧ C2 w W' a s o u := by
  have hh := h
  obtain ⟨S, So, h1, h2, h3, h4, h5, h6⟩ := h
  exact (hf S h1).mono fun e W' hq => ⟨hq.1, hh.quiet hq.2⟩
end
/-! ### The chapter's row, plainly -/
def k1 : Sp := (sp0 2 4 9).root ⟨0, 0⟩ c0
def k2 : Sp := k1.derive ⟨0, 0⟩ ⟨1, 3⟩ c0
def k3 : Sp := k2.derive ⟨1, 3⟩ ⟨0, 2⟩ c0
theorem k1_e : (sp0 2 4 9).rootE ⟨0, 0⟩ c0 = 0 := by decide
theorem k2_e : k1.deriveE ⟨0, 0⟩ ⟨1, 3⟩ c0 = 0 := by decide +kernel
theorem k3_e : k2.deriveE ⟨1, 3⟩ ⟨0, 2⟩ c0 = 0 := by decide +kernel
theorem k3_goes : k3.Goes ⟨0, 0⟩ [1, 2] := by
  unfold Sp.Goes
  rw [show k3.f ⟨0, 0⟩ = some 0 by decide +kernel]
  show Pre k3.t (k3.t.kids 0) [1, 2]
  rw [show k3.t.kids 0 = [1] by decide +kernel]
  refine .cons ?_
  rw [show k3.t.kids 1 = [2] by decide +kernel]
  refine .cons ?_
  rw [show k3.t.kids 2 = [] by decide +kernel]
  exact .nil
theorem k3_full : k3.fullE ⟨0, 0⟩ = 0 := by decide +kernel
theorem k3_full2 : k3.fullE ⟨1, 3⟩ = 0 := by decide +kernel
theorem k4_under : (k3.delP ⟨1, 3⟩).Und ⟨0, 2⟩ ⟨0, 0⟩ :=
  ⟨2, 0, by decide +kernel, by decide +kernel, .kid (by decide +kernel)⟩
end Go.Proofs
end
section
namespace Go.Proofs
open Go.RowKit
set_option linter.unusedVariables false
set_option linter.unusedSimpArgs false

theorem eql_ptr_nil (o : Nat) (w : World) : (binOp .eql 23 (ptr o) (.pointer none)).run Try.prog w = .ok (.bool false) w := by kernel_rfl
theorem neq_ptr_nil (o : Nat) (w : World) : (binOp .neq 23 (ptr o) (.pointer none)).run Try.prog w = .ok (.bool true) w := by kernel_rfl
attribute [local go_sem] eql_ptr_nil neq_ptr_nil
set_option maxHeartbeats 6400000 in
set_option maxRecDepth 100000 in
theorem known_any (w : World) : Calls Try.prog 12 #[] w fun e w' => e = .returned (.bool true) ∧ Chg [] w w' := by
  obtain ⟨V, K0, K1, K2, K3, K4, K5, hC0, hN, hRT, hD1, hD2, hRV, hDL, hUN⟩ : ∃ (V : Value) (K0 K1 K2 K3 K4 K5 : Sp), (∀ w, Calls Try.prog 30 #[] w fun e w' => e = .returned V ∧ Chg [] w w') ∧
      (Calls Try.prog 11 #[.int .i64 2, .int .i64 4, .int .i64 9] w fun e w' => ∃ a S, e = .returned (.tuple #[ptr a, .int .i64 0]) ∧ SpAt w' a S K0 ∧ (∀ k ∈ S, w.heap.size ≤ k) ∧ Chg [] w w') ∧
      (∀ W a, C1 w W a K0 → Calls Try.prog 29 #[ptr a, .int .i64 0, .int .i64 0, V] W fun e W' => e = .returned (.int .i64 0) ∧ C1 w W' a K1) ∧
      (∀ W a, C1 w W a K1 → Calls Try.prog 31 #[ptr a, .int .i64 0, .int .i64 0, .int .i64 1, .int .i64 3, V] W fun e W' => e = .returned (.int .i64 0) ∧ C1 w W' a K2) ∧
      (∀ W a, C1 w W a K2 → Calls Try.prog 31 #[ptr a, .int .i64 1, .int .i64 3, .int .i64 0, .int .i64 2, V] W fun e W' => e = .returned (.int .i64 0) ∧ C1 w W' a K3) ∧
      (∀ W a o, C2 w W a K3 o K3 → Calls Try.prog 21 #[ptr a, .int .i64 0, .int .i64 0] W fun e W' => e = .returned (.tuple #[.int .i64 2, .int .i64 0]) ∧ C2 w W' a K4 o K3) ∧
      (∀ W a o, C2 w W a K4 o K3 → Calls Try.prog 33 #[ptr o, .int .i64 1, .int .i64 3] W fun e W' => e = .returned (.int .i64 0) ∧ C2 w W' o K5 a K4) ∧
      (∀ W a o, C2 w W o K5 a K4 → Calls Try.prog 23 #[ptr o, .int .i64 0, .int .i64 2, .int .i64 0, .int .i64 0] W fun e W' => e = .returned (.bool true) ∧ C2 w W' o K5 a K4) :=
    ⟨c0.val, sp0 2 4 9, k1, k2, k3, k3.revP ⟨0, 0⟩ [1, 2], k3.delP ⟨1, 3⟩, cap0_any,
      snew_ok 2 4 9 (by omega) (by omega) (by omega) w,
      fun W a h => h.root ⟨0, 0⟩ c0_ok k1_e,
      fun W a h => h.derive ⟨0, 0⟩ ⟨1, 3⟩ c0_ok k2_e,
      fun W a h => h.derive ⟨1, 3⟩ ⟨0, 2⟩ c0_ok k3_e,
      fun W a o h => h.step (fun S h1 => by have := revoke_any h1 ⟨0, 0⟩ k3_goes; rw [k3_full] at this; exact this),
      fun W a o h => h.symm.step (fun S h1 => by have := delete_any h1 ⟨1, 3⟩; rw [k3_full2] at this; exact this),
      fun W a o h => h.look (fun S h1 => under_any_ h1 (p := ⟨0, 2⟩) (q := ⟨0, 0⟩) ⟨I64.nat (k := 0) (by omega), I64.nat (k := 2) (by omega)⟩ ⟨I64.nat (k := 0) (by omega), I64.nat (k := 0) (by omega)⟩ (b := true) (by simp [k4_under]))⟩
  have HCP := Lib.hid (fun W a (h : C1 w W a K3) => h.copy)
  have HN := Lib.hid hN
  have HC0 := Lib.hid hC0
  have HRT := Lib.hid hRT
  have HD1 := Lib.hid hD1
  have HD2 := Lib.hid hD2
  have HRV := Lib.hid hRV
  have HDL := Lib.hid hDL
  have HUN := Lib.hid hUN
  clear hC0 hN hRT hD1 hD2 hRV hDL hUN
  have tok : True := trivial
  go_enter Try.func12, Try.ntmps12
  go_wp2_with (first
    | (go_at_call 11; refine HN.out.mono ?_; rintro e w1 ⟨a, S, rfl, hA, hS, hc⟩; have HQ := Lib.hid (show C1 w w1 a K0 from ⟨S, hA, hS, hc⟩); clear hA hS hc)
    | (go_at_call 30; refine (HC0.out _).mono ?_; rintro e w2 ⟨rfl, hc⟩; have HQ := Lib.hid (HQ.out.quiet hc); clear hc)
    | (go_at_call 29; refine (HRT.out _ _ HQ.out).mono ?_; rintro e w3 ⟨rfl, hq⟩; have HQ := Lib.hid hq; clear hq)
    | (go_at_call 31; have _t := tok; refine (HD1.out _ _ HQ.out).mono ?_; rintro e w4 ⟨rfl, hq⟩; have HQ := Lib.hid hq; clear hq tok)
    | (go_at_call 31; refine (HD2.out _ _ HQ.out).mono ?_; rintro e w5 ⟨rfl, hq⟩; have HQ := Lib.hid hq; clear hq)
    | (go_at_call 20; refine (HCP.out _ _ HQ.out).mono ?_; rintro e w6 ⟨o, rfl, hq⟩; have HQ2 := Lib.hid hq; clear hq)
    | (go_at_call 21; refine (HRV.out _ _ _ HQ2.out).mono ?_; rintro e w7 ⟨rfl, hq⟩; have HQ3 := Lib.hid hq; clear hq)
    | (go_at_call 33; refine (HDL.out _ _ _ HQ3.out).mono ?_; rintro e w8 ⟨rfl, hq⟩; have HQ4 := Lib.hid hq; clear hq)
    | (go_at_call 23; refine (HUN.out _ _ _ HQ4.out).mono ?_; rintro e w9 ⟨rfl, hq⟩; have HQ5 := Lib.hid hq; clear hq))
  go_ret
  exact ⟨rfl, HQ5.out.chg⟩
end Go.Proofs
end
section
namespace Go.Proofs
open Go.RowKit
set_option linter.unusedVariables false
set_option linter.unusedSimpArgs false

/-! ### Both look the same -/
theorem NewH.sameheld {w w1 w2 : World} {A B : Option Addr} {c d : Nat} {l : List Hl} (h1 : FreshH w w1 (.slice A l.length c) l) (h2 : FreshH w1 w2 (.slice B l.length d) l) (hl : l.length ≤ 1000) : Calls Try.prog 49 #[.slice A l.length c, .slice B l.length d] w2 fun e w' => e = .returned (.bool true) ∧ Chg [] w2 w' :=
  sameheld_any (h1.later h2.2.2).1 h2.1 hl (by rw [decide_eq_true rfl])
section
variable {w : World} {a b : Nat} {S T : List Nat} {s : Sp} {r : Rf} {m : Nat}
set_option maxHeartbeats 6400000 in
set_option maxRecDepth 100000 in
theorem same_look (h : SpAt w a S s) (k : RefAt w b T r) (hb : Both s r m) : Calls Try.prog 15 #[ptr a, ptr b] w fun e w' => e = .returned (.bool true) ∧ Chg [] w w' := by
  have hlen := hb.len
  have h512 := hb.len512
  obtain ⟨id, hrel⟩ := hb.rel
  have hgs := hrel.gs
  have hnodes := hrel.nodes
  have L1 := fun q => slen_q (h.quiet ((Chg.refl [] w).drewN q))
  have R1 := fun q => room_q (h.quiet ((Chg.refl [] w).drewN q))
  have FC := Lib.hid (fun W (hc : Chg [] w W) (g : Nat) (hg : g ≤ 64) => caps_any (h.quiet hc) (g := (g : Int)) (I64.nat (by omega)))
  have FR := Lib.hid (fun W (hc : Chg [] w W) (g : Nat) => (by have := rcaps_any (k.quiet hc) (by omega) hb.slots32 (g : Int); rw [hb.caps] at this; exact this : Calls Try.prog 50 #[ptr b, .int .i64 (g : Nat)] W fun e w' => NewH W w' e (s.caps (g : Int))))
  have FL := Lib.hid (fun (g : Int) => (Nat.le_trans (s.capsTo_len g s.slots) (by have := hb.wf.slots.2; omega) : (s.caps g).length ≤ 1000))
  have FP := Lib.hid (fun W (hc : Chg [] w W) (p : Pt) (hp : p.ok) => tparent_any (h.quiet hc) hp)
  have FQ := Lib.hid (fun W (hc : Chg [] w W) (p : Pt) => (by have := rparent_any (k.quiet hc) (by omega) p; rw [hb.parAt] at this; exact this : Calls Try.prog 28 #[ptr b, .int .i64 p.g, .int .i64 p.s] W fun e w' => e = .returned (.tuple #[.int .i64 (ptO (s.parAt p)).g, .int .i64 (ptO (s.parAt p)).s, .bool (s.parAt p).isSome]) ∧ Chg [] W w'))
  have HOK := Lib.hid (fun j (x : On) (hx : r.L[j]? = some x) => (by
    obtain ⟨n, hn, rfl⟩ := (hrel.mem x).1 (List.mem_of_getElem? hx)
    have := (hb.wf.at_ n hn).1
    exact Sp.slot_ok hb.wf.gs.2 hb.wf.slots.2 this : Pt.ok ⟨x.g, x.s⟩))
  obtain ⟨A, cc, hA, hcc, hh, hrow, _⟩ := k.head
  have HH := Lib.hid (fun W (hc : Chg [] w W) => (⟨(hh W hc).1, (hh W hc).2.2.1, (hh W hc).2.2.2.1, (hh W hc).2.2.2.2.2.1⟩ : W.cell? ⟨b, 0, none⟩ = some (.int .i64 (r.gs : Nat)) ∧ W.cell? ⟨b, 2, none⟩ = some (.int .i64 (r.nodes : Nat)) ∧ W.cell? ⟨b, 3, none⟩ = some (.slice A r.L.length cc) ∧ b < W.heap.size))
  have HROW := Lib.hid hrow
  obtain ⟨N, hN⟩ : ∃ N, N = r.L.length := ⟨_, rfl⟩
  obtain ⟨G, hG⟩ : ∃ G, G = r.gs := ⟨_, rfl⟩
  obtain ⟨Z, hZ⟩ : ∃ G, G = r.nodes := ⟨_, rfl⟩
  have HN := Lib.hid hN
  have hG64 : G ≤ 64 := by rw [hG, hgs]; exact hb.wf.gs.2
  have hZN : N ≤ Z ∧ Z ≤ 512 := by rw [hN, hZ, hlen, hnodes]; have := hb.twf.len; have := hb.wf.size.2; omega
  rw [← hlen, ← hN] at L1
  rw [← hlen, ← hnodes, ← hN, ← hZ] at R1
  rw [← hN, ← hG, ← hZ] at HH
  rw [← hN] at h512
  obtain ⟨c0, c2, c3, lb⟩ := HH.out w (Chg.refl _ _)
  have e1 : ((N : Int) != (N : Int)) = false := by simp
  have e2 : IntKind.i64.wrap ((Z : Int) - (N : Int)) = ((Z - N : Nat) : Int) := by rw [show (Z : Int) - (N : Int) = ((Z - N : Nat) : Int) by omega]; exact IntWalk.i64_in _ (by omega)
  have e3 : (((Z - N : Nat) : Int) != ((Z - N : Nat) : Int)) = false := by simp
  clear hh hrow hA hcc hN hG hZ hlen hgs hnodes hb hrel h k
  go_enter Try.func15, Try.ntmps15
  go_wp2
  go_quiet ((first
    | (go_at_call 35; with_reducible exact Calls.quiet_of (L1 _))
    | (go_at_call 36; with_reducible exact Calls.quiet_of (R1 _))))
  go_wp2
  go_loopg [5] G (fun gh i wr => ∃ j : Nat, j + gh = G ∧ i = .int .i64 j ∧ Hid (Chg [] w wr))
  case atStart => exact ⟨0, by omega, rfl, Lib.hid ((Chg.refl _ _).drewN _)⟩
  case round =>
    obtain ⟨j, hj, rfl, HI⟩ := hrel
    obtain ⟨c0, c2, c3, lb⟩ := HH.out wr HI.out
    by_cases hlt : j < G
    · have d1 : decide ((j : Int) < (G : Int)) = true := decide_eq_true (by omega)
      have j1 : (j : Int) < (G : Int) := by omega
      have HA := Lib.hid (FC.out wr HI.out j (by omega))
      have HB := Lib.hid (fun w1 hc => FR.out w1 (HI.out.then hc) j)
      have HLN := Lib.hid (FL.out (j : Int))
      obtain ⟨l, hl⟩ : ∃ l, l = s.caps (j : Int) := ⟨_, rfl⟩
      rw [← hl] at HA HB HLN
      clear hl
      go_wp2_with (first
        | (go_at_call 16; refine HA.out.mono ?_; rintro e w1 ⟨A1, cc1, rfl, hf⟩; have HF := Lib.hid hf; clear hf)
        | (go_at_call 50; refine (HB.out _ HF.out.2.2).mono ?_; rintro e w2 ⟨A2, cc2, rfl, hf⟩; have HF2 := Lib.hid hf; clear hf)
        | (go_at_call 49; refine (NewH.sameheld HF.out HF2.out HLN.out).mono ?_; rintro e w3 ⟨rfl, hc⟩; have HC3 := Lib.hid (((HI.out.then HF.out.2.2).then HF2.out.2.2).then hc); clear hc))
      go_roundg (G - j - 1)
      case measure => omega
      case rel => exact ⟨j + 1, by omega, by go_num, HC3⟩
    · have d1 : decide ((j : Int) < (G : Int)) = false := decide_eq_false (by omega)
      obtain rfl : j = G := by omega
      go_wp2
      go_loopg [6] N (fun gh i wr => ∃ j : Nat, j + gh = N ∧ i = .int .i64 j ∧ Hid (Chg [] w wr))
      case atStart => exact ⟨0, by omega, rfl, HI⟩
      case round =>
        obtain ⟨i, hi, rfl, HI⟩ := hrel
        obtain ⟨c0, c2, c3, lb⟩ := HH.out wr HI.out
        by_cases hlt : i < N
        · obtain ⟨x, hx⟩ : ∃ x, r.L[i]? = some x := ⟨_, List.getElem?_eq_getElem (by rw [← HN.out]; exact hlt)⟩
          obtain ⟨g, rfl, hgb, hcell⟩ := HROW.out i x hx
          obtain ⟨lg, _, x0, x1, x2, x3, x4, x5, x6, x7⟩ := hcell wr HI.out
          have i0 : (0 : Int) ≤ (i : Int) := by omega
          have i1 : (i : Int) < (N : Int) := by omega
          have hok := HOK.out i x hx
          obtain ⟨xi, xp, xg, xs, ⟨xk, xx, xe, xr⟩⟩ := x
          simp only at x0 x1 x2 x3 x4 x5 x6 x7 hok
          have HBX := Lib.hid (Blk.new wr 66 #[.int .i64 (xi : Nat), .int .i64 (xp : Nat), .int .i64 xg, .int .i64 xs, .int .i64 xk, .int .i64 xx, .int .u64 xe, .int .u8 (xr : Nat)])
          have HC0 := Lib.hid (HI.out.alloc (.cells #[.int .i64 (xi : Nat), .int .i64 (xp : Nat), .int .i64 xg, .int .i64 xs, .int .i64 xk, .int .i64 xx, .int .u64 xe, .int .u8 (xr : Nat)] 66))
          have HP := Lib.hid (FP.out _ HC0.out ⟨xg, xs⟩ hok)
          have HQ := Lib.hid (fun W hc => FQ.out W hc ⟨xg, xs⟩)
          obtain ⟨⟨pg, ps⟩, hp⟩ : ∃ p, p = ptO (s.parAt ⟨xg, xs⟩) := ⟨_, rfl⟩
          obtain ⟨pb, hpb⟩ : ∃ p, p = (s.parAt ⟨xg, xs⟩).isSome := ⟨_, rfl⟩
          rw [← hp, ← hpb] at HP HQ
          have f1 : (pg != pg) = false := by simp
          have f2 : (ps != ps) = false := by simp
          have f3 : (pb != pb) = false := by simp
          clear hcell hx hok hp hpb
          go_wp2_with (first
            | (go_at_call 17; refine HP.out.mono ?_; rintro e w1 ⟨rfl, hc⟩; have hbx := HBX.out.quiet hc; have y2 := hbx.cell 2; have y3 := hbx.cell 3; have lx := hbx.lt; simp only [List.getElem?_toArray, List.getElem?_cons_succ, List.getElem?_cons_zero] at y2 y3; have HC1 := Lib.hid (HC0.out.then hc); clear hc hbx)
            | (go_at_call 28; refine (HQ.out _ HC1.out).mono ?_; rintro e w2 ⟨rfl, hc⟩; have HC2 := Lib.hid (HC1.out.then hc); clear hc))
          go_roundg (N - i - 1)
          case measure => omega
          case rel => exact ⟨i + 1, by omega, by go_num, HC2⟩
        · obtain rfl : i = N := by omega
          go_wp2
          go_ret
          exact ⟨rfl, HI.out⟩
end
end Go.Proofs
end
