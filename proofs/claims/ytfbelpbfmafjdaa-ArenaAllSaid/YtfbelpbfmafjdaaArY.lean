import Derived.Test.YtfbelpbfmafjdaaArX
namespace Go.Proofs
open Go.RowKit
set_option linter.unusedVariables false

/-! ### The code's table and the document's -/
/-- The document's place of a spot. -/
def Spot.pl (s : Spot Int) (p : Pl) : Prop := p.gen = (if s.gen = topG then 18446744073709551614 else s.gen) ∧ p.there = s.there ∧ p.retired = (s.gen == topG) ∧ p.x = s.thing
structure Sim (t : Tab Int) (r : RTab) : Prop where
  len : (r.L.length : Int) = t.size
  taken : ∀ (k : Nat) (s : Spot Int), t.spots[k]? = some s → ∃ p, r.L[k]? = some p ∧ s.pl p
  fresh : ∀ k : Nat, t.spots.length ≤ k → (k : Int) < t.size → r.L[k]? = some ⟨t.first, false, false, 0, -1 - (k : Nat)⟩
  order : t.freed.Pairwise (fun a b => frAt r.L a < frAt r.L b)
  stamps : ∀ k ∈ t.freed, 1 ≤ frAt r.L k ∧ frAt r.L k ≤ r.times
  t0 : 0 ≤ r.times
theorem Sim.len4 {t : Tab Int} {r : RTab} (h : Sim t r) (hw : t.WF) : r.L.length ≤ 4096 := by have := h.len; have := hw.s1; omega
theorem Sim.new (size : Nat) (first : Int) : Sim ⟨(size : Nat), first, [], [], 0⟩ ⟨newL first size, 0⟩ := by
  refine ⟨by simp [newL_len], by simp, ?_, by simp, by simp, by simp⟩
  intro k _ hk
  simp only at hk
  unfold newL
  rw [List.getElem?_map, List.getElem?_range (by omega)]
  rfl
section
variable {t : Tab Int} {r : RTab}
theorem Sim.mem_frees (h : Sim t r) (hw : t.WF) (k : Nat) : k ∈ r.frees ↔ k ∈ t.freed ∨ (t.spots.length ≤ k ∧ (k : Int) < t.size) := by
  have hl := h.len
  have hwl := hw.len
  unfold RTab.frees
  rw [mem_freeL]
  rcases Nat.lt_or_ge k t.spots.length with hk | hk
  · obtain ⟨s, hs⟩ : ∃ s, t.spots[k]? = some s := ⟨_, List.getElem?_eq_getElem hk⟩
    obtain ⟨p, hp, h1, h2, h3, h4⟩ := h.taken k s hs
    unfold freeAt
    rw [hp]
    obtain ⟨g1, g2, g3⟩ := hw.gens k s hs
    constructor
    · rintro ⟨_, hf⟩
      simp only [Bool.and_eq_true, Bool.not_eq_true', h2, h3] at hf
      refine .inl (hw.empties k s hs hf.1 ?_)
      have := hf.2
      simp at this
      omega
    · rintro (hf | hf)
      · refine ⟨by omega, ?_⟩
        obtain ⟨s', hs', h5, h6⟩ := hw.free k hf
        rw [hs] at hs'; cases hs'
        simp only [h2, h3, h5]
        simp; omega
      · omega
  · constructor
    · rintro ⟨h1, _⟩; exact .inr ⟨hk, by omega⟩
    · rintro (hf | hf)
      · have := hw.freed_lt k hf; omega
      · refine ⟨by omega, ?_⟩
        unfold freeAt
        rw [h.fresh k hk hf.2]; rfl
theorem freeL_nodup (L : List Pl) (n : Nat) : (freeL L n).Nodup := List.Nodup.sublist List.filter_sublist List.nodup_range
theorem Sim.frees_len (h : Sim t r) (hw : t.WF) : (r.frees.length : Int) = t.frees := by
  have hl := h.len
  have hwl := hw.len
  have hb : t.frees = t.size - t.spots.length + t.freed.length := rfl
  obtain ⟨N, hN⟩ := Int.eq_ofNat_of_zero_le (show 0 ≤ t.size by have := hw.s0; omega)
  have hnd : (t.freed ++ (List.range' t.spots.length (N - t.spots.length))).Nodup := by
    rw [List.nodup_append]
    refine ⟨hw.nodup, List.nodup_range', fun a ha b hb => ?_⟩
    have := hw.freed_lt a ha
    simp [List.mem_range'_1] at hb
    omega
  have e1 : r.frees.length ≤ (t.freed ++ (List.range' t.spots.length (N - t.spots.length))).length :=
    (freeL_nodup r.L _).length_le_of_subset (fun k hk => by
      rcases (h.mem_frees hw k).1 hk with h1 | h1
      · simp [h1]
      · simp [List.mem_range'_1]; right; omega)
  have e2 : (t.freed ++ (List.range' t.spots.length (N - t.spots.length))).length ≤ r.frees.length :=
    hnd.length_le_of_subset (fun k hk => by
      refine (h.mem_frees hw k).2 ?_
      simp [List.mem_range'_1] at hk
      rcases hk with h1 | h1
      · exact .inl h1
      · exact .inr ⟨h1.1, by omega⟩)
  simp at e1 e2
  omega
theorem pickL_max (L : List Pl) (l : List Nat) (hl : l ≠ []) : ∀ k, ∀ i ∈ l.take k, frAt L i ≤ frAt L (pickL L l k) := by
  intro k
  induction k with
  | zero => simp
  | succ k ih =>
    intro i hi
    rcases Nat.lt_or_ge k l.length with h | h
    · rw [pickL_succ L l k _ (List.getElem?_eq_getElem h)]
      rw [List.take_succ_eq_append_getElem h, List.mem_append, List.mem_singleton] at hi
      unfold better
      split
      · rcases hi with h1 | rfl
        · have := ih i h1; omega
        · omega
      · rcases hi with h1 | rfl
        · exact ih i h1
        · omega
    · have e : pickL L l (k + 1) = pickL L l k := by
        unfold pickL
        rw [List.take_of_length_le (by omega), List.take_of_length_le h]
      rw [e]
      refine ih i ?_
      rw [List.take_of_length_le (by omega)] at hi
      rw [List.take_of_length_le h]; exact hi
theorem Sim.pick (h : Sim t r) (hw : t.WF) (hf : t.frees ≠ 0) : r.pick = t.takeAt := by
  have hfl := h.frees_len hw
  have hne : r.frees ≠ [] := fun e => by rw [e] at hfl; simp at hfl; exact hf hfl.symm
  have hm := pickL_mem r.L r.frees hne r.frees.length
  have hmax := pickL_max r.L r.frees hne r.frees.length
  rw [List.take_of_length_le (Nat.le_refl _)] at hmax
  have hb : t.frees = t.size - t.spots.length + t.freed.length := rfl
  rcases List.eq_nil_or_concat t.freed with hn | ⟨l, j, hj⟩
  · have e2 := (take_nil (z := (0 : Int)) hn).2
    have hlt : (t.spots.length : Int) < t.size := by have := hw.len; rw [hb, hn] at hf; simp at hf; omega
    have hin : t.spots.length ∈ r.frees := (h.mem_frees hw _).2 (.inr ⟨Nat.le_refl _, hlt⟩)
    have hle := hmax _ hin
    rcases (h.mem_frees hw _).1 hm with h1 | h1
    · rw [hn] at h1; cases h1
    · have q1 : frAt r.L (pickL r.L r.frees r.frees.length) = -1 - ((pickL r.L r.frees r.frees.length : Nat) : Int) := by
        conv => lhs; unfold frAt
        rw [h.fresh _ h1.1 h1.2]
      have q2 : frAt r.L t.spots.length = -1 - ((t.spots.length : Nat) : Int) := by
        conv => lhs; unfold frAt
        rw [h.fresh _ (Nat.le_refl _) hlt]
      rw [q1, q2] at hle
      rw [e2]
      show pickL r.L r.frees r.frees.length = _
      omega
  · rw [List.concat_eq_append] at hj
    have e2 := (take_cons (z := (0 : Int)) hj).2
    have hin : j ∈ r.frees := (h.mem_frees hw _).2 (.inl (by rw [hj]; simp))
    have hle := hmax _ hin
    have hst := h.stamps j (by rw [hj]; simp)
    rw [e2]
    show pickL r.L r.frees r.frees.length = _
    rcases (h.mem_frees hw _).1 hm with h1 | h1
    · rw [hj, List.mem_append, List.mem_singleton] at h1
      rcases h1 with h1 | h1
      · have ho := h.order
        rw [hj, List.pairwise_append] at ho
        have := ho.2.2 _ h1 j (by simp)
        omega
      · exact h1
    · have q1 : frAt r.L (pickL r.L r.frees r.frees.length) = -1 - ((pickL r.L r.frees r.frees.length : Nat) : Int) := by
        conv => lhs; unfold frAt
        rw [h.fresh _ h1.1 h1.2]
      rw [q1] at hle
      omega
theorem Sim.gen_at (h : Sim t r) (hw : t.WF) (hf : t.frees ≠ 0) : r.genAt t.takeAt = t.genAt t.takeAt := by
  obtain ⟨s, hs, hth, hg, _, _, _, hge, hlt⟩ := hw.take_at (z := (0 : Int)) hf
  rw [← hge]
  unfold RTab.genAt
  rcases Nat.lt_or_ge t.takeAt t.spots.length with hk | hk
  · obtain ⟨s', hs'⟩ : ∃ s, t.spots[t.takeAt]? = some s := ⟨_, List.getElem?_eq_getElem hk⟩
    obtain ⟨p, hp, h1, h2, h3, h4⟩ := h.taken _ s' hs'
    rw [hp]
    show p.gen = _
    have : s'.gen = s.gen := by rw [hge]; unfold Tab.genAt; rw [hs']
    rw [h1, this, if_neg (by omega)]
  · rw [h.fresh _ hk hlt]
    show t.first = _
    rw [hge]; unfold Tab.genAt; rw [List.getElem?_eq_none hk]
theorem frAt_set_ne {L : List Pl} {i k : Nat} {p : Pl} (h : k ≠ i) : frAt (L.set i p) k = frAt L k := by
  unfold frAt; rw [List.getElem?_set_ne (fun e => h e.symm)]
theorem frAt_set_eq {L : List Pl} {i : Nat} {p : Pl} (h : i < L.length) : frAt (L.set i p) i = p.freed := by
  unfold frAt; rw [List.getElem?_set_self h]
theorem Sim.put (h : Sim t r) (hw : t.WF) (hf : t.frees ≠ 0) (x : Int) : Sim (t.put 0 x) (r.put x) := by
  have hpk := h.pick hw hf
  have hga := h.gen_at hw hf
  obtain ⟨s, hs, hth, hg, _, hnf, _, hge, hlt⟩ := hw.take_at (z := (0 : Int)) hf
  have hl := h.len
  have hi : t.takeAt < r.L.length := by omega
  obtain ⟨p, hp⟩ : ∃ p, r.L[t.takeAt]? = some p := ⟨_, List.getElem?_eq_getElem hi⟩
  have hpg : p.gen = t.genAt t.takeAt := by rw [← hga]; unfold RTab.genAt; rw [hp]
  have hrt : p.retired = false := by
    rcases Nat.lt_or_ge t.takeAt t.spots.length with hk | hk
    · obtain ⟨s', hs'⟩ : ∃ s, t.spots[t.takeAt]? = some s := ⟨_, List.getElem?_eq_getElem hk⟩
      obtain ⟨p', hp', h1, h2, h3, h4⟩ := h.taken _ s' hs'
      rw [hp] at hp'; cases hp'
      have : s'.gen = s.gen := by rw [hge]; unfold Tab.genAt; rw [hs']
      rw [h3, this]; simp; omega
    · rw [h.fresh _ hk hlt] at hp; cases hp; rfl
  obtain ⟨p1, p2, p3⟩ := put_same (z := (0 : Int)) (t := t) x
  have er : r.put x = { r with L := r.L.set t.takeAt { p with there := true, x := x } } := by unfold RTab.put; rw [hpk, hp]
  have hlen : t.spots.length ≤ (t.put 0 x).spots.length ∧ t.takeAt < (t.put 0 x).spots.length ∧ (∀ k, t.spots.length ≤ k → k ≠ t.takeAt → (t.put 0 x).spots.length ≤ k) := by
    have key := put_spots (z := (0 : Int)) hw hf x
    refine ⟨?_, ?_, ?_⟩
    · refine Nat.le_of_not_lt fun hh => ?_
      have := key ((t.put 0 x).spots.length)
      rw [List.getElem?_eq_none (Nat.le_refl _)] at this
      split at this
      · cases this
      · rw [List.getElem?_eq_getElem hh] at this; cases this
    · have := key t.takeAt
      rw [if_pos rfl] at this
      exact (List.getElem?_eq_some_iff.1 this).1
    · intro k hk hne
      refine Nat.le_of_not_lt fun hh => ?_
      have := key k
      rw [if_neg hne, List.getElem?_eq_none hk, List.getElem?_eq_getElem hh] at this
      cases this
  rw [er]
  refine ⟨by rw [p1]; simpa using hl, ?_, ?_, ?_, ?_, h.t0⟩
  · intro k s' hk
    rw [put_spots hw hf] at hk
    by_cases e : k = t.takeAt
    · rw [if_pos e] at hk
      cases hk
      subst e
      refine ⟨_, List.getElem?_set_self hi, ?_, rfl, ?_, rfl⟩
      · show p.gen = _
        rw [hpg]; show _ = if t.genAt t.takeAt = topG then _ else _; rw [if_neg (by omega)]
      · show p.retired = _
        rw [hrt]; show _ = (t.genAt t.takeAt == topG); simp; omega
    · rw [if_neg e] at hk
      obtain ⟨p', hp', hh⟩ := h.taken k s' hk
      exact ⟨p', by show (r.L.set _ _)[k]? = _; rw [List.getElem?_set_ne (fun e' => e e'.symm)]; exact hp', hh⟩
  · intro k hk hk2
    rw [p1] at hk2
    rw [p2]
    have hne : k ≠ t.takeAt := by omega
    show (r.L.set _ _)[k]? = _
    rw [List.getElem?_set_ne (fun e' => hne e'.symm)]
    exact h.fresh k (by omega) hk2
  · have hsub : (t.put 0 x).freed.Sublist t.freed := by
      rw [put_eq hw hf x]
      show ((t.take 0).freed).Sublist _
      rcases List.eq_nil_or_concat t.freed with hn | ⟨l, j, hj⟩
      · rw [(take_nil (z := (0 : Int)) hn).1]; exact List.Sublist.refl _
      · rw [List.concat_eq_append] at hj
        rw [(take_cons (z := (0 : Int)) hj).1, hj]; exact List.sublist_append_left _ _
    refine (h.order.sublist hsub).imp_of_mem ?_
    intro a b ha hb hab
    have ha' := ((put_freed hw hf x a).1 ha).2
    have hb' := ((put_freed hw hf x b).1 hb).2
    rw [frAt_set_ne ha', frAt_set_ne hb']; exact hab
  · intro k hk
    obtain ⟨h1, h2⟩ := (put_freed hw hf x k).1 hk
    show 1 ≤ frAt (r.L.set _ _) k ∧ frAt (r.L.set _ _) k ≤ _
    rw [frAt_set_ne h2]; exact h.stamps k h1
theorem Sim.has (h : Sim t r) (hw : t.WF) (i q : Int) : r.is i q = t.has i q := by
  rw [Bool.eq_iff_iff, ris_iff, has_iff]
  constructor
  · rintro ⟨k, p, rfl, hp, ht, rfl⟩
    rcases Nat.lt_or_ge k t.spots.length with hk | hk
    · obtain ⟨s, hs⟩ : ∃ s, t.spots[k]? = some s := ⟨_, List.getElem?_eq_getElem hk⟩
      obtain ⟨p', hp', h1, h2, h3, h4⟩ := h.taken k s hs
      rw [hp] at hp'; cases hp'
      have hst : s.there = true := by rw [← h2]; exact ht
      have := (hw.gens k s hs).2.2 hst
      exact ⟨s, live_nat.2 ⟨hs, hst⟩, by rw [h1, if_neg (by omega)]⟩
    · have hl := h.len
      have := (List.getElem?_eq_some_iff.1 hp).1
      rw [h.fresh k hk (by omega)] at hp
      cases hp; cases ht
  · rintro ⟨s, hs, rfl⟩
    obtain ⟨j0, hj, hth⟩ := live_iff.1 hs
    obtain ⟨k, rfl⟩ := Int.eq_ofNat_of_zero_le j0
    simp only [Int.toNat_natCast] at hj
    obtain ⟨p, hp, h1, h2, h3, h4⟩ := h.taken k s hj
    have := (hw.gens k s hj).2.2 hth
    exact ⟨k, p, rfl, hp, by rw [h2]; exact hth, by rw [h1, if_neg (by omega)]⟩
theorem Sim.thing (h : Sim t r) {i : Nat} {s : Spot Int} (hs : t.spots[i]? = some s) (x : Int) : Sim (t.thing i x) (r.thing i x) := by
  obtain ⟨p, hp, h1, h2, h3, h4⟩ := h.taken i s hs
  have hi := (List.getElem?_eq_some_iff.1 hp).1
  have hi' := (List.getElem?_eq_some_iff.1 hs).1
  rw [show t.thing i x = { t with spots := t.spots.set i { s with thing := x } } by unfold Tab.thing; rw [hs], show r.thing i x = { r with L := r.L.set i { p with x := x } } by unfold RTab.thing; rw [hp]]
  have hfr : ∀ k, frAt (r.L.set i { p with x := x }) k = frAt r.L k := fun k => by
    by_cases e : k = i
    · subst e; rw [frAt_set_eq hi]; unfold frAt; rw [hp]
    · rw [frAt_set_ne e]
  refine ⟨by simpa using h.len, ?_, ?_, ?_, ?_, h.t0⟩
  · intro k s' hk
    by_cases e : k = i
    · subst e
      rw [List.getElem?_set_self hi'] at hk
      cases hk
      exact ⟨_, List.getElem?_set_self hi, h1, h2, h3, rfl⟩
    · rw [List.getElem?_set_ne (fun e' => e e'.symm)] at hk
      obtain ⟨p', hp', hh⟩ := h.taken k s' hk
      exact ⟨p', by show (r.L.set _ _)[k]? = _; rw [List.getElem?_set_ne (fun e' => e e'.symm)]; exact hp', hh⟩
  · intro k hk hk2
    simp only [List.length_set] at hk
    show (r.L.set _ _)[k]? = _
    rw [List.getElem?_set_ne (by omega)]
    exact h.fresh k hk hk2
  · exact h.order.imp (fun hab => by rw [hfr, hfr]; exact hab)
  · intro k hk
    show 1 ≤ frAt (r.L.set _ _) k ∧ frAt (r.L.set _ _) k ≤ _
    rw [hfr]; exact h.stamps k hk
theorem Sim.drop (h : Sim t r) (hw : t.WF) {i : Nat} {s : Spot Int} (hs : t.spots[i]? = some s) (hth : s.there = true) : Sim (t.drop 0 i s.gen) (r.drop i) := by
  obtain ⟨p, hp, h1, h2, h3, h4⟩ := h.taken i s hs
  have hi := (List.getElem?_eq_some_iff.1 hp).1
  have hi' := (List.getElem?_eq_some_iff.1 hs).1
  obtain ⟨g1, g2, g3⟩ := hw.gens i s hs
  have g4 := g3 hth
  have hpg : p.gen = s.gen := by rw [h1, if_neg (by omega)]
  have hpr : p.retired = false := by rw [h3]; simp; omega
  have hnf : i ∉ t.freed := fun hm => by
    obtain ⟨s', h1, h2, _⟩ := hw.free i hm
    rw [hs] at h1; cases h1; rw [hth] at h2; cases h2
  have er : r.drop i = ⟨r.L.set i (p.gone r.times), if p.gen = 18446744073709551614 then r.times else r.times + 1⟩ := by unfold RTab.drop; rw [hp]
  rw [er]
  have ht0 := h.t0
  refine ⟨by show ((r.L.set i _).length : Int) = t.size; rw [List.length_set]; exact h.len, ?_, ?_, ?_, ?_, by show (0 : Int) ≤ (if p.gen = 18446744073709551614 then r.times else r.times + 1); split <;> omega⟩
  · intro k s' hk
    rw [drop_spots hi'] at hk
    by_cases e : k = i
    · rw [if_pos e] at hk
      cases hk
      subst e
      refine ⟨_, List.getElem?_set_self hi, ?_⟩
      unfold Pl.gone Spot.pl
      rw [hpg]
      rw [topG_val] at g4 ⊢
      split
      · rename_i e; exact ⟨by simp; omega, rfl, by simp; omega, rfl⟩
      · rename_i e; refine ⟨?_, rfl, ?_, rfl⟩
        · show s.gen + 1 = if s.gen + 1 = 18446744073709551615 then _ else s.gen + 1
          rw [if_neg (by omega)]
        · show p.retired = (s.gen + 1 == _); rw [hpr]; simp; omega
    · rw [if_neg e] at hk
      obtain ⟨p', hp', hh⟩ := h.taken k s' hk
      exact ⟨p', by show (r.L.set _ _)[k]? = _; rw [List.getElem?_set_ne (fun e' => e e'.symm)]; exact hp', hh⟩
  · intro k hk hk2
    have hk' : t.spots.length ≤ k := by unfold Tab.drop at hk; simpa using hk
    show (r.L.set _ _)[k]? = _
    rw [List.getElem?_set_ne (by omega)]
    exact h.fresh k hk' hk2
  · rw [drop_freed]
    have ho : t.freed.Pairwise (fun a b => frAt (r.L.set i (p.gone r.times)) a < frAt (r.L.set i (p.gone r.times)) b) :=
      h.order.imp_of_mem (fun {a b} ha hb hab => by rw [frAt_set_ne (fun e => hnf (by rw [← e]; exact ha)), frAt_set_ne (fun e => hnf (by rw [← e]; exact hb))]; exact hab)
    by_cases e : topG ≤ s.gen + 1
    · rw [if_pos e]; exact ho
    · rw [if_neg e, List.pairwise_append]
      refine ⟨ho, by simp, fun a ha b hb => ?_⟩
      simp at hb
      subst hb
      have hne : a ≠ b := fun e => hnf (by rw [← e]; exact ha)
      rw [frAt_set_ne hne, frAt_set_eq hi]
      rw [topG_val] at e
      have : (p.gone r.times).freed = r.times + 1 := by unfold Pl.gone; rw [if_neg (by omega)]
      rw [this]
      have := (h.stamps a ha).2
      omega
  · intro k hk
    rw [drop_freed] at hk
    show 1 ≤ frAt (r.L.set i (p.gone r.times)) k ∧ frAt (r.L.set i (p.gone r.times)) k ≤ (if p.gen = 18446744073709551614 then r.times else r.times + 1)
    by_cases e : topG ≤ s.gen + 1
    · rw [if_pos e] at hk
      rw [topG_val] at e
      rw [frAt_set_ne (fun e => hnf (by rw [← e]; exact hk))]
      have := h.stamps k hk
      split <;> omega
    · rw [if_neg e, List.mem_append, List.mem_singleton] at hk
      rw [topG_val] at e
      rw [if_neg (by omega)]
      rcases hk with hk | rfl
      · rw [frAt_set_ne (fun e => hnf (by rw [← e]; exact hk))]
        have := h.stamps k hk
        omega
      · rw [frAt_set_eq hi]
        have : (p.gone r.times).freed = r.times + 1 := by unfold Pl.gone; rw [if_neg (by omega)]
        rw [this]; omega
end
end Go.Proofs
