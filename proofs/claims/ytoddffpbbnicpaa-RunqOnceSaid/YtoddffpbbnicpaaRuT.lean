import Derived.Test.YtoddffpbbnicpaaRuS
namespace Go.Proofs
open Go.RowKit
set_option linter.unusedVariables false

def stealR (f : Int → Bool) (L : List Int) : List Int := stl f (halfN (L.countP f)) L
def stealL (f : Int → Bool) (L : List Int) : List Int := rst f (halfN (L.countP f)) L
def stealS (f : Int → Bool) (L : List Int) (N : Option Int) : List Int := if (stealR f L).length = 0 then N.toList.filter f else stealR f L
def stealN (f : Int → Bool) (L : List Int) (N : Option Int) : Option Int := if (stealR f L).length = 0 then N.filter (fun x => !f x) else N
section
variable {w : World} {q g h M : Nat} {L : List Int} {N : Option Int} {V : Value} {aff : List Int} {p : Int}
set_option maxHeartbeats 3200000 in
theorem qsteal_any (H : QueueAt w q g h M L N) (hV : Bs w V aff) (hfar : aff = [] ∨ ∀ k ∈ foot V, k ∉ [q, g, h]) :
    Calls Try.prog 18 #[.pointer (some ⟨q, 0, none⟩), .int .i64 p, V] w fun e w' => ∃ v, e = .returned v ∧ QTurn q g h M v (stealS (mayP aff p) L N) (stealL (mayP aff p) L) (stealN (mayP aff p) L N) w w' := by
  obtain ⟨A, c, rfl, _⟩ := id hV
  have hn := none_any H
  have hm := mayRun_any hV p [q, g, h] H.lt hfar
  obtain ⟨f, hf⟩ : ∃ f, f = mayP aff p := ⟨_, rfl⟩
  rw [← hf] at hm ⊢
  have HR := Lib.hid (fun W c1 c2 (hW : Chg [] w W) (hm : MayF W [q, g, h] c1 c2 f) => stealRing_any (H.quiet hW) hm)
  have HLT := Lib.hid H.lt
  obtain ⟨S, hS⟩ : ∃ S, S = stealR f L := ⟨_, rfl⟩
  obtain ⟨K, hK⟩ : ∃ K, K = stealL f L := ⟨_, rfl⟩
  have hS' : stl f (halfN (L.countP f)) L = S := hS.symm
  have hK' : rst f (halfN (L.countP f)) L = K := hK.symm
  rw [hS', hK'] at HR
  unfold stealS stealN
  rw [← hS, ← hK]
  clear H hV hf hS hK hS' hK' hfar
  obtain ⟨s, hs⟩ : ∃ s, s = S.length := ⟨_, rfl⟩
  rw [← hs]
  have HSL := Lib.hid hs
  clear hs
  have fin : ∀ w1 w2 v S' K' N', Chg [] w w1 → QTurn q g h M v S' K' N' w1 w2 → QTurn q g h M v S' K' N' w w2 := fun w1 w2 v S' K' N' hc ⟨t1, t2, t3, t4⟩ =>
    ⟨t1, t2, fun k hk => Nat.le_trans hc.size (t3 k hk), (Chg.any hc).trans t4 (fun k hk => .inl hk)⟩
  have FIN := Lib.hid fin
  clear fin
  by_cases h0 : s = 0
  · subst h0
    rw [if_pos rfl, if_pos rfl]
    have HS0 := Lib.hid (List.eq_nil_of_length_eq_zero HSL.out.symm)
    cases N with
    | none =>
      go_enter Try.func18, Try.ntmps18
      go_wp2_with (first
        | (go_at_call 37; refine hn.mono ?_; rintro e w' ⟨rfl, rfl⟩)
        | (go_at_call 46; refine hm.mono ?_; rintro e w1 ⟨c1, c2, rfl, hmf, hc⟩; have HMF := Lib.hid hmf; have HC := Lib.hid hc; clear hmf hc)
        | (go_at_call 47; refine (HR.out _ _ _ HC.out HMF.out).mono ?_; rintro e w2 ⟨v, rfl, hT⟩; have k2 := (hT.1.cells _ (Chg.refl _ _)).2.2; simp only [Option.isSome_none] at k2; obtain ⟨A2, c2', rfl, _⟩ := hT.2.1.val; rw [← HSL.out]; have HT := Lib.hid hT; clear hT))
      go_ret
      have := FIN.out _ _ _ _ _ _ HC.out HT.out
      rw [← HSL.out, HS0.out] at this
      exact ⟨_, rfl, this⟩
    | some x =>
      by_cases hfx : f x = true
      · have HFX := Lib.hid hfx
        have HX1 := Lib.hid (show List.filter f (Option.some x).toList = [x] by simp [hfx])
        have HX2 := Lib.hid (show Option.filter (fun x => !f x) (some x) = none by simp [Option.filter, hfx])
        rw [HX1.out, HX2.out]
        clear hfx
        go_enter Try.func18, Try.ntmps18
        go_wp2_with (first
          | (go_at_call 37; refine hn.mono ?_; rintro e w' ⟨rfl, rfl⟩)
          | (go_at_call 46; refine hm.mono ?_; rintro e w1 ⟨c1, c2, rfl, hmf, hc⟩; have HMF := Lib.hid hmf; have HC := Lib.hid hc; clear hmf hc)
          | (go_at_call 47; refine (HR.out _ _ _ HC.out HMF.out).mono ?_; rintro e w2 ⟨v, rfl, hT⟩; obtain ⟨_, k1, k2⟩ := (hT.1.cells _ (Chg.refl _ _)); simp only [Option.isSome_some, Option.getD_some] at k1 k2; obtain ⟨A2, c2', rfl, _⟩ := hT.2.1.val; rw [← HSL.out]; have hcl := HMF.out w2 hT.2.2.2 x; rw [HFX.out] at hcl; have HT := Lib.hid hT; clear hT)
          | (go_at_call 61; refine hcl.mono ?_; rintro e w' ⟨rfl, d, rfl⟩)
          | (go_at_call 43; refine (leave_any (HT.out.1.quiet ((Chg.refl _ _).drewN _))).mono ?_; rintro e w4 ⟨rfl, hq4, hc4⟩; simp only [Option.isSome_some, Option.getD_some]; have HQ4 := Lib.hid hq4; have HC4 := Lib.hid hc4; clear hq4 hc4))
        go_ret
        have z := HC.out.size
        have z2 := HT.out.2.2.2.size
        have z4 := HC4.out.size
        have e4 : Chg [q, g, h] w w4 := ((Chg.any HC.out).trans (HT.out.2.2.2.drewN _) (fun k hk => .inl hk)).trans HC4.out (fun k hk => .inl hk)
        exact ⟨_, rfl, HQ4.out.quiet ((Chg.refl _ _).alloc _), ⟨rfl, .inr ⟨_, 1, _, rfl, Blk.new _ _ _, Nat.le_refl _, by unfold maxLen; omega, by simp, rfl⟩⟩, (fun k hk => by simp [foot_some] at hk; simp at z4; omega), e4.alloc _⟩
      · have hfx' : f x = false := by simpa using hfx
        have HFX := Lib.hid hfx'
        have HX1 := Lib.hid (show List.filter f (Option.some x).toList = [] by simp [hfx'])
        have HX2 := Lib.hid (show Option.filter (fun x => !f x) (some x) = some x by simp [Option.filter, hfx'])
        rw [HX1.out, HX2.out]
        clear hfx hfx'
        go_enter Try.func18, Try.ntmps18
        go_wp2_with (first
          | (go_at_call 37; refine hn.mono ?_; rintro e w' ⟨rfl, rfl⟩)
          | (go_at_call 46; refine hm.mono ?_; rintro e w1 ⟨c1, c2, rfl, hmf, hc⟩; have HMF := Lib.hid hmf; have HC := Lib.hid hc; clear hmf hc)
          | (go_at_call 47; refine (HR.out _ _ _ HC.out HMF.out).mono ?_; rintro e w2 ⟨v, rfl, hT⟩; obtain ⟨_, k1, k2⟩ := (hT.1.cells _ (Chg.refl _ _)); simp only [Option.isSome_some, Option.getD_some] at k1 k2; obtain ⟨A2, c2', rfl, _⟩ := hT.2.1.val; rw [← HSL.out]; have hcl := HMF.out w2 hT.2.2.2 x; rw [HFX.out] at hcl; have HT := Lib.hid hT; clear hT)
          | (go_at_call 61; refine hcl.mono ?_; rintro e w' ⟨rfl, d, rfl⟩))
        go_ret
        have := FIN.out _ (w2.drewN d) _ _ _ _ HC.out (HT.out.later ((Chg.refl _ _).drewN _))
        rw [← HSL.out, HS0.out] at this
        exact ⟨_, rfl, this⟩
  · have hz : ((s : Int) == 0) = false := by simp; omega
    rw [if_neg h0, if_neg h0]
    clear h0
    go_enter Try.func18, Try.ntmps18
    go_wp2_with (first
      | (go_at_call 37; refine hn.mono ?_; rintro e w' ⟨rfl, rfl⟩)
      | (go_at_call 46; refine hm.mono ?_; rintro e w1 ⟨c1, c2, rfl, hmf, hc⟩; have HMF := Lib.hid hmf; have HC := Lib.hid hc; clear hmf hc)
      | (go_at_call 47; refine (HR.out _ _ _ HC.out HMF.out).mono ?_; rintro e w2 ⟨v, rfl, hT⟩; obtain ⟨A2, c2', rfl, _⟩ := hT.2.1.val; rw [← HSL.out]; have HT := Lib.hid hT; clear hT))
    go_ret
    have := FIN.out _ _ _ _ _ _ HC.out HT.out
    rw [← HSL.out] at this
    exact ⟨_, rfl, this⟩
end
end Go.Proofs
