import Derived.Test.YtfbelpbfmafjdaaArZ
namespace Go.Proofs
open Go.RowKit
set_option linter.unusedVariables false

/-- The code's table and the document's, apart in memory. -/
structure Two (w : World) (g h : Nat) (S R : List Nat) (t : Tab Int) (r : RTab) : Prop where
  tab : TabAt kI w g S t
  ref : RefAt w h R r
  apart : ∀ k ∈ S, k ∉ R
/-- What a call on both leaves. -/
def Does (g h : Nat) (S R : List Nat) (t' : Tab Int) (r' : RTab) (w w' : World) : Prop :=
  ∃ S' R', Two w' g h S' R' t' r' ∧ (∀ k ∈ S', k ∈ S ∨ w.heap.size ≤ k) ∧ (∀ k ∈ R', k ∈ R ∨ w.heap.size ≤ k) ∧ Chg (S ++ R) w w'
theorem Two.quiet {w w' : World} {g h : Nat} {S R : List Nat} {t : Tab Int} {r : RTab} (H : Two w g h S R t r) (hc : Chg [] w w') : Two w' g h S R t r := ⟨H.tab.quiet hc, H.ref.quiet hc, H.apart⟩
theorem Two.ref_after {w wa w1 : World} {g h : Nat} {S R : List Nat} {t : Tab Int} {r : RTab} (H : Two w g h S R t r) (ha : Chg [] w wa) (h1 : Chg S wa w1) : RefAt w1 h R r :=
  (H.ref.quiet ha).chg h1 (fun k hk hS => H.apart k hS hk)
theorem Two.step {w wa w1 wb w2 w3 : World} {g h : Nat} {S R : List Nat} {t t' : Tab Int} {r r' : RTab} (H : Two w g h S R t r) (ha : Chg [] w wa) (h1 : Turns kI g S t' wa w1) (hb : Chg [] w1 wb) (h2 : RTurns h R r' wb w2) (hc : Chg [] w2 w3) :
    Does g h S R t' r' w w3 := by
  obtain ⟨S1, hA1, hs1, hc1⟩ := h1
  obtain ⟨R1, hR1, hr1, hc2⟩ := h2
  have hlS := H.tab.lt
  have hlR := H.ref.lt
  have hlS1 := hA1.lt
  have za := ha.size
  have z1 := hc1.size
  have zb := hb.size
  have hSR : ∀ k ∈ S1, k ∉ R := fun k hk hR => by
    rcases hs1 k hk with h9 | h9
    · exact H.apart k h9 hR
    · have := hlR k hR; omega
  refine ⟨S1, R1, ⟨((hA1.quiet hb).chg hc2 hSR).quiet hc, hR1.quiet hc, fun k hk hR => ?_⟩, fun k hk => ?_, fun k hk => ?_, ?_⟩
  · rcases hr1 k hR with h9 | h9
    · exact hSR k hk h9
    · have := hlS1 k hk; omega
  · rcases hs1 k hk with h9 | h9
    · exact .inl h9
    · exact .inr (by omega)
  · rcases hr1 k hk with h9 | h9
    · exact .inl h9
    · exact .inr (by omega)
  · have e1 : Chg (S ++ R) w w1 := (Chg.any ha).trans hc1 (fun k hk => .inl (by simp [hk]))
    exact ((e1.then hb).trans hc2 (fun k hk => .inl (by simp [hk]))).then hc
theorem Two.still {w w3 : World} {g h : Nat} {S R : List Nat} {t : Tab Int} {r : RTab} (H : Two w g h S R t r) (hc : Chg [] w w3) : Does g h S R t r w w3 :=
  ⟨S, R, H.quiet hc, fun k hk => .inl hk, fun k hk => .inl hk, hc.any⟩
/-- A bool is told, and it is true where both are one. -/
def Told (b : Prop) (e : Ending) : Prop := ∃ v : Bool, e = .returned (.bool v) ∧ (b → v = true)

set_option maxRecDepth 100000 in
set_option maxHeartbeats 1600000 in
theorem do1 {w : World} {g h : Nat} {S R : List Nat} {t : Tab Int} {r : RTab} (H : Two w g h S R t r) (hw : t.WF) (hn : r.L.length ≤ 4096) (x i q n : Int) :
    Calls Try.prog 15 #[.pointer (some ⟨g, 0, none⟩), .pointer (some ⟨h, 0, none⟩), (ActV.mk 1 x i q n).val] w fun e w' => Told (r.pIdx = t.pIdx ∧ r.pGen = t.pGen ∧ r.pErr = t.pErr) e ∧ Does g h S R (t.put' x) (r.put' x) w w' := by
  unfold ActV.val
  have hbS : w.heap.size ∉ S := fun hm => by have := H.tab.lt _ hm; omega
  have hlR := H.ref.lt
  have HS := Lib.hid hbS
  have HR := Lib.hid hlR
  clear hbS hlR
  go_enter Try.func15, Try.ntmps15
  go_wp2_with (first
    | (go_at_call 16; refine (put_any (H.tab.quiet ((Chg.refl _ _).alloc _)) hw x).mono ?_; rintro e w1 ⟨rfl, hT1⟩; have hT := Lib.hid hT1; obtain ⟨S1, hA1, hs1, hc1⟩ := hT1; have k1 := ((Blk.new w 38 #[.int .i64 1, .int .i64 x, .int .i64 i, .int .u64 q, .int .i64 n]).chg hc1 HS.out).cell 1; have hR1 := Lib.hid (H.ref_after ((Chg.refl _ _).alloc _) hc1); have hz1 : w.heap.size < w1.heap.size := (by have := hc1.size; simp at this; omega); have hbR : w1.heap.size ∉ R := (fun hm => by have := HR.out _ hm; omega); have HBR := Lib.hid hbR; clear hA1 hs1 hc1 hbR)
    | (go_at_call 33; refine (rput_any (hR1.out.quiet ((Chg.refl _ _).alloc _)) hn x).mono ?_; rintro e w2 ⟨rfl, hT2⟩; have hTT := Lib.hid hT2; obtain ⟨R1, hA2, hs2, hc2⟩ := hT2; have b7 := (Blk.new w1 36 #[.int .i64 t.pIdx, .int .u64 t.pGen]).chg hc2 HBR.out; have k2 := b7.cell 0; have k3 := b7.cell 1; have k4 := b7.lt; clear hA2 hs2 hc2 b7))
  all_goals
    go_ret
    refine ⟨⟨_, rfl, ?_⟩, H.step ((Chg.refl _ _).alloc _) hT.out ((Chg.refl _ _).alloc _) hTT.out ((Chg.refl _ _).alloc _)⟩
    rintro ⟨e1, e2, e3⟩
    first | (exact absurd e1.symm (by assumption)) | (exact absurd e2.symm (by assumption)) | (simp [e3])
set_option maxRecDepth 100000 in
set_option maxHeartbeats 1600000 in
theorem do2 {w : World} {g h : Nat} {S R : List Nat} {t : Tab Int} {r : RTab} (H : Two w g h S R t r) (hw : t.WF) (hn : r.L.length ≤ 4096) (x i q n : Int) (i0 : -9223372036854775808 ≤ i) (i1 : i ≤ 9223372036854775807) :
    Calls Try.prog 15 #[.pointer (some ⟨g, 0, none⟩), .pointer (some ⟨h, 0, none⟩), (ActV.mk 2 x i q n).val] w fun e w' => Told (r.got i q = t.got i q ∧ r.err i q = t.err i q) e ∧ Does g h S R t r w w' := by
  unfold ActV.val
  go_enter Try.func15, Try.ntmps15
  go_wp2_with (first
    | (go_at_call 17; refine (get_any (H.tab.quiet ((Chg.refl _ _).alloc _)) hw i q i0 i1).mono ?_; rintro e w1 ⟨rfl, hc1⟩; have b5 := (Blk.new w 38 #[.int .i64 2, .int .i64 x, .int .i64 i, .int .u64 q, .int .i64 n]).chg hc1 (by simp); have k2 := b5.cell 2; have k3 := b5.cell 3; have hc := ((Chg.refl [] w).alloc (.cells #[.int .i64 2, .int .i64 x, .int .i64 i, .int .u64 q, .int .i64 n] 38)).then hc1; have HC := Lib.hid hc; clear hc b5)
    | (go_at_call 34; refine (rget_any (H.ref.quiet HC.out) hn i q).mono ?_; rintro e w2 ⟨rfl, hc2⟩))
  all_goals
    go_ret
    refine ⟨⟨_, rfl, ?_⟩, H.still (HC.out.then hc2)⟩
    rintro ⟨e1, e2⟩
    first | (exact absurd e1.symm (by assumption)) | (simp [e2]) | (simp [e1, e2])
theorem doN {w : World} {g h : Nat} {S R : List Nat} {t : Tab Int} {r : RTab} (H : Two w g h S R t r) (k x i q n : Int) (h1 : k ≠ 1) (h2 : k ≠ 2) (h3 : k ≠ 3) (h4 : k ≠ 4) (h5 : k ≠ 5) :
    Calls Try.prog 15 #[.pointer (some ⟨g, 0, none⟩), .pointer (some ⟨h, 0, none⟩), (ActV.mk k x i q n).val] w fun e w' => Told True e ∧ Does g h S R t r w w' := by
  unfold ActV.val
  have b1 : (k == 1) = false := by simpa using h1
  have b2 : (k == 2) = false := by simpa using h2
  have b3 : (k == 3) = false := by simpa using h3
  have b4 : (k == 4) = false := by simpa using h4
  have b5 : (k == 5) = false := by simpa using h5
  clear h1 h2 h3 h4 h5
  go_enter Try.func15, Try.ntmps15
  go_wp2
  go_ret
  exact ⟨⟨true, rfl, fun _ => rfl⟩, H.still ((Chg.refl _ _).alloc _)⟩
set_option maxRecDepth 100000 in
set_option maxHeartbeats 3200000 in
theorem do4 {w : World} {g h : Nat} {S R : List Nat} {t : Tab Int} {r : RTab} (H : Two w g h S R t r) (hw : t.WF) {T : Int} (hf : r.Fits T) (hT1 : T ≤ 1000000) (x i q n : Int) (i0 : -9223372036854775808 ≤ i) (i1 : i ≤ 9223372036854775807) :
    Calls Try.prog 15 #[.pointer (some ⟨g, 0, none⟩), .pointer (some ⟨h, 0, none⟩), (ActV.mk 4 x i q n).val] w fun e w' => Told (r.err i q = t.err i q) e ∧ Does g h S R (t.drop' i q) (r.drop' i q) w w' := by
  unfold ActV.val
  have hbS : w.heap.size ∉ S := fun hm => by have := H.tab.lt _ hm; omega
  have HS := Lib.hid hbS
  have hbR : w.heap.size ∉ R := fun hm => by have := H.ref.lt _ hm; omega
  have HBR := Lib.hid hbR
  clear hbR
  have hf0 := hf.t0
  have hf1 := hf.t1
  clear hbS
  go_enter Try.func15, Try.ntmps15
  go_wp2
  go_region_held3 (fun w' => w'.cell? ⟨w.heap.size, 2, none⟩ = some (.int .i64 i) ∧ w'.cell? ⟨w.heap.size, 3, none⟩ = some (.int .u64 q))
    (first | go_keep)
    (first
      | (go_at_call 19; refine (drop_any (H.tab.quiet (((Chg.refl _ _).alloc _).drew)) hw i q i0 i1).mono ?_; rintro e w1 ⟨rfl, hX1⟩; have hT := Lib.hid hX1; obtain ⟨S1, hA1, hs1, hc1⟩ := hX1; have b5 := (Blk.new w 38 #[.int .i64 4, .int .i64 x, .int .i64 i, .int .u64 q, .int .i64 n]).drew.chg hc1 HS.out; have k2 := b5.cell 2; have k3 := b5.cell 3; have hR1 := Lib.hid (H.ref_after (((Chg.refl _ _).alloc _).drew) hc1); have HB5 := Lib.hid b5; clear hA1 hs1 hc1 b5)
      | (go_at_call 36; refine (rdrop_any hR1.out hf.len i q (by omega) (by omega) (fun k p hk _ => hf.gens k p hk)).mono ?_; rintro e w2 ⟨rfl, hT2⟩; have hTT := Lib.hid hT2; obtain ⟨R1, hA2, hs2, hc2⟩ := hT2; have b6 := HB5.out.chg hc2 HBR.out; have k4 := b6.cell 2; have k5 := b6.cell 3; clear hA2 hs2 hc2 b6))
  all_goals
    go_wp2
    go_ret
    refine ⟨⟨_, rfl, ?_⟩, H.step (((Chg.refl _ _).alloc _).drew) hT.out (Chg.refl _ _) hTT.out (Chg.refl _ _)⟩
    intro e1
    simp [e1]
set_option maxRecDepth 100000 in
set_option maxHeartbeats 3200000 in
theorem do3 {w : World} {g h : Nat} {S R : List Nat} {t : Tab Int} {r : RTab} (H : Two w g h S R t r) (hw : t.WF) {T : Int} (hf : r.Fits T) (hT1 : T ≤ 1000000) (x i q n : Int) (i0 : -9223372036854775808 ≤ i) (i1 : i ≤ 9223372036854775807) :
    Calls Try.prog 15 #[.pointer (some ⟨g, 0, none⟩), .pointer (some ⟨h, 0, none⟩), (ActV.mk 3 x i q n).val] w fun e w' => Told (r.err i q = t.err i q) e ∧ Does g h S R (t.set' i q x) (r.set' i q x) w w' := by
  unfold ActV.val
  have hbS : w.heap.size ∉ S := fun hm => by have := H.tab.lt _ hm; omega
  have HS := Lib.hid hbS
  have hbR : w.heap.size ∉ R := fun hm => by have := H.ref.lt _ hm; omega
  have HBR := Lib.hid hbR
  clear hbR
  have hf0 := hf.t0
  have hf1 := hf.t1
  clear hbS
  go_enter Try.func15, Try.ntmps15
  go_wp2
  go_region_held3 (fun w' => w'.cell? ⟨w.heap.size, 1, none⟩ = some (.int .i64 x) ∧ w'.cell? ⟨w.heap.size, 2, none⟩ = some (.int .i64 i) ∧ w'.cell? ⟨w.heap.size, 3, none⟩ = some (.int .u64 q))
    (first | go_keep)
    (first
      | (go_at_call 18; refine (set_any (H.tab.quiet (((Chg.refl _ _).alloc _).drew)) hw i q x i0 i1).mono ?_; rintro e w1 ⟨rfl, hX1⟩; have hT := Lib.hid hX1; obtain ⟨S1, hA1, hs1, hc1⟩ := hX1; have b5 := (Blk.new w 38 #[.int .i64 3, .int .i64 x, .int .i64 i, .int .u64 q, .int .i64 n]).drew.chg hc1 HS.out; have k1 := b5.cell 1; have k2 := b5.cell 2; have k3 := b5.cell 3; have hR1 := Lib.hid (H.ref_after (((Chg.refl _ _).alloc _).drew) hc1); have HB5 := Lib.hid b5; clear hA1 hs1 hc1 b5)
      | (go_at_call 35; refine (rset_any hR1.out hf.len i q x).mono ?_; rintro e w2 ⟨rfl, hT2⟩; have hTT := Lib.hid hT2; obtain ⟨R1, hA2, hs2, hc2⟩ := hT2; have b6 := HB5.out.chg hc2 HBR.out; have k6 := b6.cell 1; have k4 := b6.cell 2; have k5 := b6.cell 3; clear hA2 hs2 hc2 b6))
  all_goals
    go_wp2
    go_ret
    refine ⟨⟨_, rfl, ?_⟩, H.step (((Chg.refl _ _).alloc _).drew) hT.out (Chg.refl _ _) hTT.out (Chg.refl _ _)⟩
    intro e1
    simp [e1]
set_option maxRecDepth 100000 in
set_option maxHeartbeats 3200000 in
theorem do5 {w : World} {g h : Nat} {S R : List Nat} {t : Tab Int} {r : RTab} (H : Two w g h S R t r) (hw : t.WF) {T : Int} (hf : r.Fits T) (hT1 : T ≤ 1000000) (x i q n : Int) (n0 : -9223372036854775808 ≤ n) (n1 : n ≤ 9223372036854775807) :
    Calls Try.prog 15 #[.pointer (some ⟨g, 0, none⟩), .pointer (some ⟨h, 0, none⟩), (ActV.mk 5 x i q n).val] w fun e w' => Told (r.err (t.atIdx n) (t.atGen n) = t.err (t.atIdx n) (t.atGen n)) e ∧ Does g h S R (t.drop' (t.atIdx n) (t.atGen n)) (r.drop' (t.atIdx n) (t.atGen n)) w w' := by
  unfold ActV.val
  have hlS := H.tab.lt
  have hlR := H.ref.lt
  have HS := Lib.hid hlS
  have HR := Lib.hid hlR
  have hf0 := hf.t0
  have hf1 := hf.t1
  have ia : -9223372036854775808 ≤ t.atIdx n ∧ t.atIdx n ≤ 9223372036854775807 := by
    unfold Tab.atIdx; cases t.live n with
    | none => simp
    | some s => exact ⟨n0, n1⟩
  obtain ⟨ia0, ia1⟩ := ia
  have HA := fun w' h' => at_I (w := w') (g := g) (S := S) (t := t) h' hw n n0 n1
  obtain ⟨I, hI⟩ : ∃ I, I = t.atIdx n := ⟨_, rfl⟩
  obtain ⟨G, hG⟩ : ∃ G, G = t.atGen n := ⟨_, rfl⟩
  rw [← hI, ← hG] at HA ⊢
  rw [← hI] at ia0 ia1
  clear hlS hlR hI hG
  go_enter Try.func15, Try.ntmps15
  go_wp2_with (go_at_call 21; refine (HA _ (H.tab.quiet ((Chg.refl _ _).alloc _))).mono ?_; rintro e w0 ⟨rfl, hc0⟩; have hcc := Lib.hid (((Chg.refl [] w).alloc _).then hc0); have hz0 : w.heap.size < w0.heap.size := (by have := hc0.size; simp at this; omega); clear hc0)
  have H0 := H.quiet hcc.out
  have hbS : w0.heap.size ∉ S := fun hm => by have := HS.out _ hm; omega
  have hbR : w0.heap.size ∉ R := fun hm => by have := HR.out _ hm; omega
  have HBS := Lib.hid hbS
  have HBR := Lib.hid hbR
  clear hbS hbR
  go_region_held3 (fun w' => w'.cell? ⟨w0.heap.size, 0, none⟩ = some (.int .i64 I) ∧ w'.cell? ⟨w0.heap.size, 1, none⟩ = some (.int .u64 G))
    (first | go_keep)
    (first
      | (go_at_call 19; refine (drop_any (H0.tab.quiet (((Chg.refl _ _).alloc _).drew)) hw I G ia0 ia1).mono ?_; rintro e w1 ⟨rfl, hX1⟩; have hT := Lib.hid hX1; obtain ⟨S1, hA1, hs1, hc1⟩ := hX1; have b5 := (Blk.new w0 36 #[.int .i64 I, .int .u64 G]).drew.chg hc1 HBS.out; have k2 := b5.cell 0; have k3 := b5.cell 1; have hR1 := Lib.hid (H0.ref_after (((Chg.refl _ _).alloc _).drew) hc1); have HB5 := Lib.hid b5; clear hA1 hs1 hc1 b5)
      | (go_at_call 36; refine (rdrop_any hR1.out hf.len I G (by omega) (by omega) (fun k p hk _ => hf.gens k p hk)).mono ?_; rintro e w2 ⟨rfl, hT2⟩; have hTT := Lib.hid hT2; obtain ⟨R1, hA2, hs2, hc2⟩ := hT2; have b6 := HB5.out.chg hc2 HBR.out; have k4 := b6.cell 0; have k5 := b6.cell 1; clear hA2 hs2 hc2 b6))
  all_goals
    go_wp2
    go_ret
    refine ⟨⟨_, rfl, ?_⟩, H.step (hcc.out.then (((Chg.refl _ _).alloc _).drew)) hT.out (Chg.refl _ _) hTT.out (Chg.refl _ _)⟩
    intro e1
    simp [e1]
/-- One act, on both: they come to what the plain ones come to; and if these are alike, true is told. -/
theorem do_any {w : World} {g h : Nat} {S R : List Nat} {t : Tab Int} {r : RTab} (H : Two w g h S R t r) (hw : t.WF) {T : Int} (hf : r.Fits T) (hT1 : T ≤ 1000000) (a : ActV) (ha : a.Fits) :
    Calls Try.prog 15 #[.pointer (some ⟨g, 0, none⟩), .pointer (some ⟨h, 0, none⟩), a.val] w fun e w' => Told (Sim t r) e ∧ Does g h S R (t.act a) (r.act a (t.atIdx a.n) (t.atGen a.n)) w w' := by
  obtain ⟨k, x, i, q, n⟩ := a
  have told : ∀ {b : Prop} {e : Ending}, Told b e → (Sim t r → b) → Told (Sim t r) e := fun ⟨v, he, hb⟩ h => ⟨v, he, fun hs => hb (h hs)⟩
  unfold Tab.act RTab.act
  by_cases h1 : k = 1
  · subst h1
    exact (do1 H hw hf.len x i q n).mono fun e w' ⟨h1, h2⟩ => ⟨told h1 (fun hs => hs.puts hw), h2⟩
  · by_cases h2 : k = 2
    · subst h2
      exact (do2 H hw hf.len x i q n ha.i0 ha.i1).mono fun e w' ⟨h1, h2⟩ => ⟨told h1 (fun hs => ⟨hs.gots hw i q, hs.errs hw i q⟩), h2⟩
    · by_cases h3 : k = 3
      · subst h3
        exact (do3 H hw hf hT1 x i q n ha.i0 ha.i1).mono fun e w' ⟨h1, h2⟩ => ⟨told h1 (fun hs => hs.errs hw i q), h2⟩
      · by_cases h4 : k = 4
        · subst h4
          exact (do4 H hw hf hT1 x i q n ha.i0 ha.i1).mono fun e w' ⟨h1, h2⟩ => ⟨told h1 (fun hs => hs.errs hw i q), h2⟩
        · by_cases h5 : k = 5
          · subst h5
            exact (do5 H hw hf hT1 x i q n ha.n0 ha.n1).mono fun e w' ⟨h1, h2⟩ => ⟨told h1 (fun hs => hs.errs hw _ _), h2⟩
          · simp only [h1, h3, h4, h5, if_false]
            exact (doN H k x i q n h1 h2 h3 h4 h5).mono fun e w' ⟨h1, h2⟩ => ⟨told h1 (fun _ => trivial), h2⟩
end Go.Proofs
