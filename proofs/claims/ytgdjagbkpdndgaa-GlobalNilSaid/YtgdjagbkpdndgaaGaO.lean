import Derived.Test.YtgdjagbkpdndgaaGaN
import Derived.Laws.EntriesVeiled
namespace Go.Proofs
open Go.RowKit Go.Shelf
set_option linter.unusedVariables false
attribute [local go_sem] Oper.semAt_some

/-- How many of those ahead of g may; is it there, and may? -/
def ahd (f : Int → Bool) (g : Int) (L : List Int) : Int × Bool := if f g = true ∧ findAt g L < L.length then (((L.take (findAt g L)).countP f : Nat), true) else (0, false)
theorem ahd_not {f : Int → Bool} {g : Int} {L : List Int} (h : f g = false) : ahd f g L = (0, false) := by unfold ahd; rw [if_neg (by simp [h])]
theorem ahd_none {N : List (Nat × Int)} {f : Int → Bool} {g : Int} (h : ∀ y ∈ N.attach, y.1.2 ≠ g) : ahd f g (nu N) = (0, false) := by
  have h1 : findAt g (nu N) = (nu N).length := findAt_none (fun j hj he => by
    rw [nu_len] at hj
    obtain ⟨p, hp⟩ : ∃ p, N[j]? = some p := ⟨_, List.getElem?_eq_getElem hj⟩
    rw [nu_at hp] at he
    exact h _ (List.mem_of_getElem? (att_at hp)) (Option.some.inj he))
  unfold ahd
  rw [if_neg (by omega)]
theorem ahd_yes {N : List (Nat × Int)} {f : Int → Bool} {g : Int} {pre : List (Nd N)} {x : Nd N} (hp : pre ++ [x] <+: N.attach) (hf : f g = true) (h : ∀ y ∈ pre, y.1.2 ≠ g) (hx : x.1.2 = g) :
    ahd f g (nu N) = ((((vals pre).countP f : Nat) : Int), true) := by
  have h1 : N.attach[pre.length]? = some x := by
    obtain ⟨r, hr⟩ := hp
    rw [← hr]
    simp
  have h2 := nu_at (at_att h1)
  rw [hx] at h2
  have h3 : findAt g (nu N) = pre.length := findAt_first (fun j hj he => by
    obtain ⟨z, hz⟩ : ∃ z, pre[j]? = some z := ⟨_, List.getElem?_eq_getElem hj⟩
    have h2 : N.attach[j]? = some z := by
      obtain ⟨r, hr⟩ := hp
      rw [← hr, List.append_assoc, List.getElem?_append_left hj]
      exact hz
    rw [nu_at (at_att h2)] at he
    exact h z (List.mem_of_getElem? hz) (Option.some.inj he)) h2
  have h4 : (nu N).take pre.length = vals pre := by
    obtain ⟨r, hr⟩ := hp
    rw [← vals_all N, ← hr]
    unfold vals
    rw [List.map_append, List.map_append, List.append_assoc, show pre.length = (pre.map (fun p : Nd N => p.1.2)).length by simp, List.take_left]
  have h5 := (List.getElem?_eq_some_iff.1 h2).1
  unfold ahd
  rw [if_pos ⟨hf, by omega⟩, h3, h4]
/-- What lies ready in the midst of Ahead. -/
structure Amid (r : Value) (g : Int) (V : Value) (h b10 b11 b12 : Nat) (c : Nat) (W : World) : Prop where
  e5 : Blk W h 3 #[.int .i64 g]
  e8 : Blk W (h + 1) 3 #[.int .i64 0]
  e9 : Blk W (h + 1 + 1) 4 #[.bool false]
  e10 : Blk W b10 53 #[V]
  e11 : Blk W b11 3 #[.int .i64 (c : Nat)]
  e12 : Blk W b12 25 #[r]
theorem Amid.keep {r : Value} {g : Int} {V : Value} {h b10 b11 b12 c : Nat} {A B : World} {row : Option Nat} (H : Amid r g V h b10 b11 b12 c A) (hg : A.grownBy B row) (hr : ∀ r, row = some r → ∃ o : Obj, A.heap[r]? = some o ∧ o.isCells = false) : Amid r g V h b10 b11 b12 c B :=
  ⟨blk_keep H.1 hg hr, blk_keep H.2 hg hr, blk_keep H.3 hg hr, blk_keep H.4 hg hr, blk_keep H.5 hg hr, blk_keep H.6 hg hr⟩
theorem Amid.drewN {r : Value} {g : Int} {V : Value} {h b10 b11 b12 c : Nat} {A : World} (H : Amid r g V h b10 b11 b12 c A) (n : Nat) : Amid r g V h b10 b11 b12 c (A.drewN n) := ⟨H.1, H.2, H.3, H.4, H.5, H.6⟩

set_option maxRecDepth 100000 in
set_option maxHeartbeats 6400000 in
theorem ahead_any {w : World} {r : Value} {T : List Nat} {N : List (Nat × Int)} (H : Rowed w r T N) (hN : N.length ≤ 100000) {A : Option Addr} {an ac : Nat} {aff : List Int} (hV : Bs w (.slice A an ac) aff) (g p : Int) :
    Calls Try.prog 14 #[r, .int .i64 g, .int .i64 p, .slice A an ac] w fun e w' => e = .returned (.tuple #[.int .i64 (ahd (mayP aff p) g (nu N)).1, .bool (ahd (mayP aff p) g (nu N)).2]) ∧ Chg [] w w' := by
  obtain ⟨pp, rfl⟩ := H.val
  have hTl := H.lt
  refine Calls.mono (R := fun e w' => e = .returned (.tuple #[.int .i64 (ahd (mayP aff p) g (nu N)).1, .bool (ahd (mayP aff p) g (nu N)).2]) ∧ Below w.heap.size w w') ?_ (fun e w' ⟨h1, h2⟩ => ⟨h1, Chg.of_below h2⟩)
  have b5 := ((Blk.new w 3 #[.int .i64 g]).alloc (.cells #[.int .i64 0] 3)).alloc (.cells #[.bool false] 4)
  have b8 := (Blk.at (w.alloc (.cells #[.int .i64 g] 3)) 3 #[.int .i64 0] (n := w.heap.size + 1) (by simp)).alloc (.cells #[.bool false] 4)
  have b9 := Blk.at ((w.alloc (.cells #[.int .i64 g] 3)).alloc (.cells #[.int .i64 0] 3)) 4 #[.bool false] (n := w.heap.size + 1 + 1) (by simp)
  have hcA : Chg [] w (((w.alloc (.cells #[.int .i64 g] 3)).alloc (.cells #[.int .i64 0] 3)).alloc (.cells #[.bool false] 4)) := (((Chg.refl _ _).alloc _).alloc _).alloc _
  have hmr := mayRun_any (hV.quiet hcA) p [] (fun _ h => by cases h) (.inr (fun _ _ h => by cases h))
  obtain ⟨f, hf⟩ : ∃ f, f = mayP aff p := ⟨_, rfl⟩
  rw [← hf] at hmr ⊢
  clear hf
  refine (callsIn_wide (n := 6)).1 ?_
  refine callsIn_of_wp_marks Try.func14 rfl trivial ?_ rfl
  simp only [Try.ntmps14, List.size_toArray, List.length_cons, List.length_nil, Nat.reduceAdd, Nat.reduceSub, Array.replicate_succ, Array.replicate_zero, List.push_toArray, List.append_toArray, List.nil_append, List.cons_append]
  cases hfg : f g with
  | false =>
    gi_wp2_with (first
      | (refine ⟨trivial, ?_⟩; gi_at_call 31; refine (callsIn_wide.2 hmr).mono ?_; rintro e w1 ⟨c1, c2, rfl, hM, hc⟩; have HMg := hM _ ((Chg.refl [] w1).alloc (.cells #[.func (.func 39) #[] #[c1, c2]] 53)) g; rw [hfg] at HMg; have HM := Lib.hid hM; have d5 := b5.chg hc (by simp); have d8 := b8.chg hc (by simp); have d9 := b9.chg hc (by simp); have hcB := hcA.then hc; have k5 := d5.cell 0; have k5' := (d5.alloc (.cells #[.func (.func 39) #[] #[c1, c2]] 53)).cell 0; have kv := (Blk.new w1 53 #[.func (.func 39) #[] #[c1, c2]]).cell 0; simp only [List.getElem?_toArray, List.getElem?_cons_zero] at k5 k5' kv; clear hM)
      | (refine ⟨trivial, ?_⟩; gi_at_call 39; refine (callsIn_wide.2 HMg).mono ?_; rintro e w2 ⟨rfl, nd, hw2⟩; have x5 : Blk w2 w.heap.size 3 #[.int .i64 g] := (by rw [hw2]; exact (d5.alloc _).drewN _); have x8 : Blk w2 (w.heap.size + 1) 3 #[.int .i64 0] := (by rw [hw2]; exact (d8.alloc _).drewN _); have x9 : Blk w2 (w.heap.size + 1 + 1) 4 #[.bool false] := (by rw [hw2]; exact (d9.alloc _).drewN _); have x10 : Blk w2 w1.heap.size 53 #[.func (.func 39) #[] #[c1, c2]] := (by rw [hw2]; exact (Blk.new w1 53 _).drewN _); have hcC : Chg [] w1 w2 := (by rw [hw2]; exact ((Chg.refl _ _).alloc _).drewN _); have hcD := hcB.then hcC; have k8 := x8.cell 0; have k9 := x9.cell 0; have f8 := x8.frozen 0; have f9 := x9.frozen 0; simp only [List.getElem?_toArray, List.getElem?_cons_zero] at k8 k9; clear hw2))
    have y8 := x8.set_ 0 (.int .i64 0)
    have y9 := ((x9.far (p := ⟨w.heap.size + 1, 0, none⟩) (by simp) (.int .i64 0)).set_ 0 (.bool false)).cell 0
    have y8' := (y8.far (p := ⟨w.heap.size + 1 + 1, 0, none⟩) (by simp) (.bool false)).cell 0
    simp at y8' y9
    refine ⟨.tuple #[.int .i64 0, .bool false], ?_, by rw [ahd_not hfg], (((Chg.refl [w.heap.size + 1, w.heap.size + 1 + 1] w).then hcD).setCell (p := ⟨w.heap.size + 1, 0, none⟩) (.inl (by simp)) _ |>.setCell (p := ⟨w.heap.size + 1 + 1, 0, none⟩) (.inl (by simp)) _).below (fun k hk => by simp at hk; omega) (Nat.le_refl _)⟩
    simp [results, Try.f14, go_sem, y8', y9, Result.andThen]
  | true =>
    gi_wp2_with (first
      | (refine ⟨trivial, ?_⟩; gi_at_call 31; refine (callsIn_wide.2 hmr).mono ?_; rintro e w1 ⟨c1, c2, rfl, hM, hc⟩; have HMg := hM _ ((Chg.refl [] w1).alloc (.cells #[.func (.func 39) #[] #[c1, c2]] 53)) g; rw [hfg] at HMg; have HM := Lib.hid hM; have d5 := b5.chg hc (by simp); have d8 := b8.chg hc (by simp); have d9 := b9.chg hc (by simp); have hcB := hcA.then hc; have k5 := d5.cell 0; have k5' := (d5.alloc (.cells #[.func (.func 39) #[] #[c1, c2]] 53)).cell 0; have kv := (Blk.new w1 53 #[.func (.func 39) #[] #[c1, c2]]).cell 0; simp only [List.getElem?_toArray, List.getElem?_cons_zero] at k5 k5' kv; clear hM)
      | (refine ⟨trivial, ?_⟩; gi_at_call 39; refine (callsIn_wide.2 HMg).mono ?_; rintro e w2 ⟨rfl, nd, hw2⟩; have x5 : Blk w2 w.heap.size 3 #[.int .i64 g] := (by rw [hw2]; exact (d5.alloc _).drewN _); have x8 : Blk w2 (w.heap.size + 1) 3 #[.int .i64 0] := (by rw [hw2]; exact (d8.alloc _).drewN _); have x9 : Blk w2 (w.heap.size + 1 + 1) 4 #[.bool false] := (by rw [hw2]; exact (d9.alloc _).drewN _); have x10 : Blk w2 w1.heap.size 53 #[.func (.func 39) #[] #[c1, c2]] := (by rw [hw2]; exact (Blk.new w1 53 _).drewN _); have hcC : Chg [] w1 w2 := (by rw [hw2]; exact ((Chg.refl _ _).alloc _).drewN _); have hcD := hcB.then hcC; have k8 := x8.cell 0; have k9 := x9.cell 0; have f8 := x8.frozen 0; have f9 := x9.frozen 0; simp only [List.getElem?_toArray, List.getElem?_cons_zero] at k8 k9; clear hw2)
      | (refine ⟨trivial, ?_⟩; gi_at_call 32; refine (make_nodes _ _ _).mono ?_; rintro e w' ⟨rfl, rfl⟩))
    have z2 : w1.heap.size < w2.heap.size := x10.lt
    have z1 : w.heap.size + 1 + 1 < w1.heap.size := d9.lt
    have bA : Amid (.pointer pp) g (.func (.func 39) #[] #[c1, c2]) w.heap.size w1.heap.size w2.heap.size (w2.heap.size + 1) 0 ((w2.alloc (.cells #[.int .i64 0] 3)).alloc (.cells #[.pointer pp] 25)) :=
      ⟨(x5.alloc _).alloc _, (x8.alloc _).alloc _, (x9.alloc _).alloc _, (x10.alloc _).alloc _, (Blk.new w2 3 _).alloc _, Blk.at (w2.alloc _) 25 _ (by simp)⟩
    have hB0 : Below w2.heap.size w2 ((w2.alloc (.cells #[.int .i64 0] 3)).alloc (.cells #[.pointer pp] 25)) := ((Below.refl _ w2).alloc (Nat.le_refl _) _).alloc (by simp) _
    have HT0 := H.quiet (hcD.then (Chg.of_below hB0))
    have hsz : ((w2.alloc (.cells #[.int .i64 0] 3)).alloc (.cells #[.pointer pp] 25)).heap.size = w2.heap.size + 1 + 1 := by simp
    obtain ⟨W0, hW0⟩ : ∃ W0, (w2.alloc (.cells #[.int .i64 0] 3)).alloc (.cells #[.pointer pp] 25) = W0 := ⟨_, rfl⟩
    rw [hW0] at bA hB0 HT0 hsz ⊢
    have zz := hcD.size
    have hL : ∀ k ∈ (w2.heap.size + 1) :: T, k < W0.heap.size ∧ k ≠ w2.heap.size := fun k hk => by
      rcases List.mem_cons.1 hk with rfl | hk
      · omega
      · have := hTl k hk; omega
    have HQ := fun W (hW : Below w2.heap.size w2 W) (x : Int) (k : Nat) => (callsIn_wide (n := 6 - 1 - 1 - 1)).2 ((HM.out (W.drewN k) ((hcC.then (Chg.of_below hW)).drewN k) x).mono (R' := fun e w' => e = .returned (.bool (f x)) ∧ ∃ m, w' = W.drewN m) (fun e w' ⟨h1, q, h2⟩ => ⟨h1, ⟨_, h2.trans (World.drewN_drewN _ _ _)⟩⟩))
    have HHQ := Lib.hid HQ
    have HHT := Lib.hid HT0
    have HBw : Below w.heap.size w w2 := hcD.to_below
    clear hW0 HQ k5 k5' kv k8 k9 f8 f9 x5 x8 x9 x10 d5 d8 d9 b5 b8 b9 hmr HMg
    refine wpIn_rangeFunc_ownF rfl (by omega) (gf := 41) (lb := #[.pointer (some ⟨w2.heap.size + 1, 0, none⟩)]) rfl trivial (enters_of Try.func41 (by kernel_rfl) rfl)
      (nodes_stops (6 - 1) (by omega) (w2.heap.size + 1) (by omega) (bA.e12.cell 0) HT0) (fun h k => h.trans k)
      (fun W l o o' hl ho _ _ => ⟨by simp [World.putObj], fun k hk => by have := hL k hk; exact (grownBy_putObj' W l o').block k (by have := (Array.getElem?_eq_some_iff.1 ho).1; omega) (fun e => by cases e; omega)⟩)
      (Below.refl _ _) (fun _ => rfl)
      (fun pre W => ((∀ y ∈ pre, y.1.2 ≠ g) ∧ Amid (.pointer pp) g (.func (.func 39) #[] #[c1, c2]) w.heap.size w1.heap.size w2.heap.size (w2.heap.size + 1) ((vals pre).countP f) W ∧ KeepL T W0 W) ∧ Below w2.heap.size w2 W)
      (fun c pre W => (c = .ret ∧ ∃ x q, pre = q ++ [x] ∧ (∀ y ∈ q, y.1.2 ≠ g) ∧ x.1.2 = g ∧ Blk W (w.heap.size + 1) 3 #[.int .i64 (((vals q).countP f : Nat) : Int)] ∧ Blk W (w.heap.size + 1 + 1) 4 #[.bool true]) ∧ Below w.heap.size w W)
      (OwnFrom.and (fun s A B row hs hg hr => ⟨hs.1, hs.2.1.keep hg (fun r e => (hr r e).2), hs.2.2.trans ⟨hg.size, fun k hk => hg.block k (by have := hTl k hk; have := hs.2.2.size; omega) (fun e => by have := (hr k e.symm).1; have := hTl k hk; omega)⟩⟩) (ownFrom_below (Nat.le_refl _) (by omega)))
      (fun c => OwnFrom.and (fun s A B row hs hg hr => by obtain ⟨h1, x, q, h2, h3, h4, h5, h6⟩ := hs; exact ⟨h1, x, q, h2, h3, h4, blk_keep h5 hg (fun r e => (hr r e).2), blk_keep h6 hg (fun r e => (hr r e).2)⟩) (ownFrom_below (Nat.le_refl _) (by omega)))
      ⟨⟨(fun y hy => by cases hy), bA, KeepL.refl _ _⟩, hB0⟩
      (fun x => { tmps := #[.pointer pp, .int .i64 g, .int .i64 p, .slice A an ac, undef, .pointer (some ⟨w.heap.size, 0, none⟩), undef, undef, .pointer (some ⟨w.heap.size + 1, 0, none⟩), .pointer (some ⟨w.heap.size + 1 + 1, 0, none⟩), .pointer (some ⟨w1.heap.size, 0, none⟩), .pointer (some ⟨w2.heap.size, 0, none⟩), .pointer (some ⟨x.1.1, 0, none⟩), .int .i64 p, .slice A an ac, (.func (.func 39) #[] #[c1, c2]), (.func (.func 39) #[] #[c1, c2]), .int .i64 g, .bool true, .bool false, .pointer pp, .func (.func 41) #[] #[.pointer (some ⟨w2.heap.size + 1, 0, none⟩)], .pointer (some ⟨x.1.1, 0, none⟩), undef, undef, undef, undef, undef, undef, undef, undef, undef, undef, undef, undef, undef, undef, undef], defers := [] }) ?assign ?body ?done ?stop
    case assign =>
      intro l x W K hK
      simp only [Nd.encs]
      gi_wp2
      exact hK
    case body =>
      rintro l pre x W ⟨⟨hno, hA, hKp⟩, hB⟩ hlt
      obtain ⟨hxT, hx0⟩ := HHT.out.cell x
      have x0 := (hKp.cell (p := ⟨x.1.1, 0, none⟩) hxT).trans hx0
      have hcall : ∀ k' k, CallsIn Fence.wide (6 - 1 - 1 - 1) Try.prog 39 #[.int .i64 x.1.2, c1, c2] (W.drewN (k' + k)) fun e w'' => e = .returned (.bool (f x.1.2)) ∧ ∃ m, w'' = W.drewN (k' + m) := fun k' k => by
        have h := HHQ.out (W.drewN k') (below_drewN hB k') x.1.2 k
        simpa only [World.drewN_drewN] using h
      have hct : ∀ b, f x.1.2 = b → (vals (pre ++ [x])).countP f = (vals pre).countP f + (if b = true then 1 else 0) := fun b hb => by
        subst hb
        unfold vals
        rw [List.map_append, List.countP_append]
        simp [List.countP_cons]
      have hle : (vals pre).countP f ≤ 1000000 := by have := List.countP_le_length (p := f) (l := vals pre); rw [vals_len] at this; omega
      obtain ⟨⟨xb, xv⟩, hxm⟩ := x
      simp only at x0 hcall hxT hct
      have a5 := hA.e5.cell 0
      have a8 := hA.e8.cell 0
      have a9 := hA.e9.cell 0
      have a10 := hA.e10.cell 0
      have a11 := hA.e11.cell 0
      have g8 := hA.e8.frozen 0
      have g9 := hA.e9.frozen 0
      have g11 := hA.e11.frozen 0
      simp only [List.getElem?_toArray, List.getElem?_cons_zero] at a5 a8 a9 a10 a11
      obtain ⟨cn, hcn⟩ : ∃ cn, cn = (vals pre).countP f := ⟨_, rfl⟩
      rw [← hcn] at a11 hle
      have HA := Lib.hid hA
      have HB := Lib.hid hB
      have HKp := Lib.hid hKp
      have HNo := Lib.hid hno
      have HCn := Lib.hid hcn
      have HCt := Lib.hid hct
      clear hA hB hKp hno hcn hct hxT hx0
      by_cases hxg : xv = g
      · have hb : (xv == g) = true := by simpa using hxg
        have HX := Lib.hid hxg
        clear hxg
        gi_wp2
        refine wpIn_region_quiet_round (F := Fence.wide) l rfl (by rfl) (by kernel_rfl) (by kernel_rfl) ?_
        repeat (gi_big_quiet_step (fail))
        refine wpQuietIn_nil ?_
        intro _ hw'
        obtain ⟨nq, hw''⟩ := hw'
        subst hw''
        gi_wp2
        refine ⟨((KeepsOthers.drewN _ _).trans (KeepsOthers.setCell _ _ _)).trans (KeepsOthers.setCell _ _ _), ⟨rfl, ⟨(xb, xv), hxm⟩, pre, rfl, HNo.out, HX.out, ?_, ?_⟩, ?_⟩
        · have := ((HA.out.e8.drewN nq).set_ 0 (.int .i64 (cn : Nat))).far (p := ⟨w.heap.size + 1 + 1, 0, none⟩) (by simp) (.bool true)
          rw [← HCn.out]
          simpa using this
        · have := ((HA.out.e9.drewN nq).far (p := ⟨w.heap.size + 1, 0, none⟩) (by simp) (.int .i64 (cn : Nat))).set_ 0 (.bool true)
          simpa using this
        · exact (((HBw.trans (HB.out.mono zz)).trans (below_drewN (Below.refl _ _) nq)).setCell (p := ⟨w.heap.size + 1, 0, none⟩) (by simp) _).setCell (p := ⟨w.heap.size + 1 + 1, 0, none⟩) (by simp; omega) _
      · have hb : (xv == g) = false := by simpa using hxg
        have HX := Lib.hid hxg
        clear hxg
        gi_wp2
        refine wpIn_region_quiet_round (F := Fence.wide) l rfl (by rfl) (by kernel_rfl) (by kernel_rfl) ?_
        repeat (gi_big_quiet_step (fail))
        refine wpQuietIn_nil ?_
        intro _ hw'
        obtain ⟨nq, hw''⟩ := hw'
        subst hw''
        have hno2 : ∀ y ∈ pre ++ [⟨(xb, xv), hxm⟩], y.1.2 ≠ g := fun y hy => by
          rcases List.mem_append.1 hy with h | h
          · exact HNo.out y h
          · simp at h; subst h; exact HX.out
        have HN2 := Lib.hid hno2
        clear hno2
        cases hfx : f xv with
        | true =>
          rw [hfx] at hcall
          have HE := Lib.hid (HCt.out true hfx)
          gi_wp2
          refine wpIn_region_quiet_round (F := Fence.wide) l rfl (by rfl) (by kernel_rfl) (by kernel_rfl) ?_
          iterate 5 (gi_big_quiet_step (fail))
          refine BigFrame.wpQuietIn_want (by unfold Oper.askedIn; intros; trivial) rfl (fun K hK => ?_)
          gi_big_quiet_op
          apply Exists.intro
          refine ⟨fun _ => ?_, ?_⟩
          · (gi_at_call 39; exact hcall _ _)
          refine hK _ ?_
          clear hK K
          refine wpQuietIn_nil ?_
          intro _ hw'
          obtain ⟨nr, hw''⟩ := hw'
          subst hw''
          gi_wp2
          refine ⟨(KeepsOthers.drewN _ (nq + nr)).trans (KeepsOthers.setCell _ _ _), ⟨?_, fun k hk => ?_⟩, ⟨HN2.out, ?_, HKp.out.trans ⟨?_, fun k hk => ?_⟩⟩, ?_⟩
          · simp [World.setCell]
          · exact Below.heap_setCell _ _ _ _ (hL k hk).2
          · rw [HE.out]
            have A2 := HA.out.drewN (nq + nr)
            refine ⟨A2.1.far (p := ⟨w2.heap.size, 0, none⟩) (by simp; omega) _, A2.2.far (p := ⟨w2.heap.size, 0, none⟩) (by simp; omega) _, A2.3.far (p := ⟨w2.heap.size, 0, none⟩) (by simp; omega) _, A2.4.far (p := ⟨w2.heap.size, 0, none⟩) (by simp; omega) _, ?_, A2.6.far (p := ⟨w2.heap.size, 0, none⟩) (by simp) _⟩
            have := A2.5.set_ 0 (.int .i64 ((cn : Int) + 1))
            rw [← HCn.out]
            simpa using this
          · simp [World.setCell]
          · exact Below.heap_setCell _ _ _ _ (hL k (List.mem_cons_of_mem _ hk)).2
          · exact (below_drewN HB.out (nq + nr)).setCell (p := ⟨w2.heap.size, 0, none⟩) (by simp) _
        | false =>
          rw [hfx] at hcall
          have HE := Lib.hid (HCt.out false hfx)
          gi_wp2
          refine wpIn_region_quiet_round (F := Fence.wide) l rfl (by rfl) (by kernel_rfl) (by kernel_rfl) ?_
          iterate 5 (gi_big_quiet_step (fail))
          refine BigFrame.wpQuietIn_want (by unfold Oper.askedIn; intros; trivial) rfl (fun K hK => ?_)
          gi_big_quiet_op
          apply Exists.intro
          refine ⟨fun _ => ?_, ?_⟩
          · (gi_at_call 39; exact hcall _ _)
          refine hK _ ?_
          clear hK K
          refine wpQuietIn_nil ?_
          intro _ hw'
          obtain ⟨nr, hw''⟩ := hw'
          subst hw''
          gi_wp2
          refine ⟨(KeepsOthers.drewN _ _).trans (KeepsOthers.drewN _ _), ⟨Nat.le_refl _, fun k hk => rfl⟩, ⟨HN2.out, ?_, HKp.out.trans ⟨Nat.le_refl _, fun k hk => rfl⟩⟩, below_drewN (below_drewN HB.out nq) nr⟩
          rw [HE.out]
          exact (HA.out.drewN nq).drewN nr
    case done =>
      rintro D ys W hD rfl ⟨⟨hno, hA, hKp⟩, hB⟩ hK
      have a8 := hA.e8.cell 0
      have a9 := hA.e9.cell 0
      have g8 := hA.e8.frozen 0
      have g9 := hA.e9.frozen 0
      simp only [List.getElem?_toArray, List.getElem?_cons_zero] at a8 a9
      have s8 := (hA.e8.set_ 0 (.int .i64 0)).far (p := ⟨w.heap.size + 1 + 1, 0, none⟩) (by simp) (.bool false)
      have s9 := (hA.e9.far (p := ⟨w.heap.size + 1, 0, none⟩) (by simp) (.int .i64 0)).set_ 0 (.bool false)
      gi_wp2
      have hK' := ((KeepsOthers.setCell W ⟨w.heap.size + 1, 0, none⟩ (.int .i64 0)).trans (KeepsOthers.setCell _ ⟨w.heap.size + 1 + 1, 0, none⟩ (.bool false))).same D _ hK rfl
      refine ⟨by simp, .inl ⟨_, _, rfl, run_takeDeferred hK', ?_⟩⟩
      have q8 := (blk_keep s8 (grownBy_putObj' _ D (.deferred none)) (fun r e => by cases e; exact ⟨_, hK', rfl⟩)).cell 0
      have q9 := (blk_keep s9 (grownBy_putObj' _ D (.deferred none)) (fun r e => by cases e; exact ⟨_, hK', rfl⟩)).cell 0
      refine ⟨.tuple #[.int .i64 0, .bool false], ?_, by rw [ahd_none hno], (((HBw.trans (hB.mono zz)).setCell (p := ⟨w.heap.size + 1, 0, none⟩) (by simp) _).setCell (p := ⟨w.heap.size + 1 + 1, 0, none⟩) (by simp; omega) _).trans (belowK_b (w := w) (Nat.le_refl _) _ D _ _ (by omega) hK' rfl rfl)⟩
      simp at q8 q9
      simp [results, Try.f14, go_sem, q8, q9, Result.andThen]
    case stop =>
      rintro D c pre W hD hpre ⟨⟨rfl, x, q, rfl, hno, hx, h8, h9⟩, hB⟩ hK
      gi_wp2
      refine ⟨by simp, .inl ⟨_, _, rfl, run_takeDeferred hK, ?_⟩⟩
      have q8 := (blk_keep h8 (grownBy_putObj' _ D (.deferred none)) (fun r e => by cases e; exact ⟨_, hK, rfl⟩)).cell 0
      have q9 := (blk_keep h9 (grownBy_putObj' _ D (.deferred none)) (fun r e => by cases e; exact ⟨_, hK, rfl⟩)).cell 0
      refine ⟨.tuple #[.int .i64 (((vals q).countP f : Nat) : Int), .bool true], ?_, by rw [ahd_yes hpre hfg hno hx], hB.trans (belowK_b (w := w) (Nat.le_refl _) W D _ _ (by omega) hK rfl rfl)⟩
      simp at q8 q9
      simp [results, Try.f14, go_sem, q8, q9, Result.andThen]
end Go.Proofs
