import Derived.Test.YtelkndhifkmpiaaHeS
namespace Go.Proofs
open Go.RowKit
set_option linter.unusedVariables false

theorem clone_any {w : World} {h c : Nat} {ts : List Tm} (hR : Row w 61 3 (.slice (some ⟨h, 0, none⟩) ts.length c) ts.length (tms ts)) (hn : ts.length ≤ 100000) :
    Calls Try.prog 33 #[.slice (some ⟨h, 0, none⟩) ts.length c] w fun e w' => ∃ h' c', e = .returned (.slice (some ⟨h', 0, none⟩) ts.length c') ∧ Row w' 61 3 (.slice (some ⟨h', 0, none⟩) ts.length c') ts.length (tms ts) ∧ w.heap.size ≤ h' ∧ Chg [] w w' := by
  obtain ⟨i0, hi0, hz0, hz1, hz2⟩ := info_parts tm_info
  obtain ⟨A', c2, hv, _, _, _, hcell⟩ := (Rs.of_row hR).open_
  simp only [Value.slice.injEq] at hv
  obtain ⟨rfl, _, rfl⟩ := hv
  have hcon := AnyE.slices_Clone Try.cloneTm i0 (.agg #[.int .u64 0, .int .i64 0, .int .u64 0]) 3 24 hi0 hz0 hz1 hz2 rfl (by omega) Try.sizeOf61 h 0 ts.length c (tms ts) w (tms_len ts) (by unfold maxLen; omega) (by omega)
    (fun j u hj => by
      obtain ⟨b, o, hA, _, e⟩ := hcell j u hj
      cases hA
      exact e)
    (fun u hu => by
      unfold tms at hu
      obtain ⟨x, _, hx⟩ := List.mem_flatMap.1 hu
      simp [tmCells] at hx
      rcases hx with rfl | rfl | rfl <;> rfl)
  change Calls Try.prog 33 _ _ _ at hcon
  refine hcon.mono ?_
  rintro e w' ⟨v', h1, h2, h3, h4⟩
  have hR' := Row.of_own h2
  rcases h2.2 with ⟨rfl, _⟩ | ⟨g', cap, cur, rfl, hb, _⟩
  · exact absurd rfl h3
  · exact ⟨g', cap, h1, hR', hb, Chg.of_below h4⟩
theorem clonem_any {w : World} {b m : Nat} {f : Int → Option Nat} (h : Mp w b m f) :
    Calls Try.prog 34 #[.map (some b)] w fun e w' => e = .returned (.map (some w.heap.size)) ∧ Mp w' w.heap.size m f ∧ Chg [] w w' := by
  obtain ⟨D, h1, h2, h3⟩ := h
  have hcon := AnyW.maps_Clone_owns (H := Unit) Try.cloneMap 3 (plainElem Try.prog 3) b _ D w h1
  change Calls Try.prog 34 _ _ _ at hcon
  exact hcon.mono fun e w' ⟨q1, q2, _, q4⟩ => ⟨q1, ⟨D, q2, h2, h3⟩, Chg.of_below q4⟩
/-- What Copy comes to. -/
def Copied (w : World) (K : List Tm) (p : Nat) (e : Ending) (w' : World) : Prop :=
  ∃ g' S', e = .returned (.pointer (some ⟨g', 0, none⟩)) ∧ HeapAt w' g' S' K p ∧ (∀ k ∈ S', w.heap.size ≤ k) ∧ Chg [] w w'
set_option maxHeartbeats 3200000 in
set_option maxRecDepth 100000 in
theorem copy_full {w : World} {g h b c m p : Nat} {ts K : List Tm} (hm : Hm w g h b c m p ts) (hs : St ts K p) (hmp : m ≤ p) (hp : p ≤ 100000) :
    Calls Try.prog 18 #[.pointer (some ⟨g, 0, none⟩)] w (Copied w K p) := by
  obtain ⟨f, H, hP, hI⟩ := hm
  obtain ⟨c0, c1, c2⟩ := H.head
  have hlt := H.lt
  have lg := hlt g (by simp)
  have hn : ts.length ≤ 100000 := by have := hs.few; have := hs.len; omega
  have HC := Lib.hid (fun W (hW : Chg [] w W) => clone_any (H.quiet hW).2.1 hn)
  have HMc := Lib.hid (fun W (hW : Chg [] w W) => clonem_any (H.quiet hW).2.2)
  have HEnd := Lib.hid (fun w' g' h' c' b' (hB : Blk w' g' 55 #[.slice (some ⟨h', 0, none⟩) ts.length c', .map (some b'), .int .u64 p]) (hR : Row w' 61 3 (.slice (some ⟨h', 0, none⟩) ts.length c') ts.length (tms ts)) (hM : Mp w' b' m f) =>
    (.inr ⟨h', b', c', m, ts, ⟨f, ⟨hB, hR, hM⟩, hP, hI⟩, hs, hmp, rfl⟩ : HeapAt w' g' [g', h', b'] K p))
  have HK := Lib.hid (fun (W : World) (hW : Chg [] w W) => (⟨(hW.cell (p := ⟨g, 0, none⟩) lg (by simp)).trans c0, (hW.cell (p := ⟨g, 1, none⟩) lg (by simp)).trans c1, (hW.cell (p := ⟨g, 2, none⟩) lg (by simp)).trans c2⟩ : _ ∧ _ ∧ _))
  obtain ⟨n, hnn⟩ : ∃ n, n = ts.length := ⟨_, rfl⟩
  rw [← hnn] at HC HEnd c0 HK
  clear H hP hI hs hmp hlt hnn hn
  unfold Copied
  go_enter Try.func18, Try.ntmps18
  go_wp2
  go_region_held3 (fun w' => w'.cell? ⟨g, 0, none⟩ = some (.slice (some ⟨h, 0, none⟩) n c) ∧ w'.cell? ⟨g, 1, none⟩ = some (.map (some b)) ∧ w'.cell? ⟨g, 2, none⟩ = some (.int .u64 p))
    (first | go_keep)
    (first
      | (go_at_call 33; refine (HC.out _ ((Chg.refl _ _).drew)).mono ?_; rintro e w1 ⟨h', c', rfl, hR, hh, hc1⟩; have hcc := (Chg.refl [] w).drew.then hc1; obtain ⟨k0, k1, k2⟩ := HK.out _ hcc; have HR := Lib.hid hR; have HH := Lib.hid hh; have HCC := Lib.hid hcc; clear hR hh hc1 hcc)
      | (go_at_call 34; refine (HMc.out _ HCC.out).mono ?_; rintro e w2 ⟨rfl, hM, hc2⟩; have hcc := HCC.out.then hc2; obtain ⟨l0, l1, l2⟩ := HK.out _ hcc; have HM := Lib.hid hM; have HC2 := Lib.hid hc2; have HC3 := Lib.hid hcc; clear hM hc2 hcc))
  all_goals
    go_wp2
    go_ret
    refine ⟨_, [_, h', w1.heap.size], rfl, HEnd.out _ _ _ _ _ (Blk.new w2 55 _) ((HR.out.chg HC2.out (fun _ _ h => by cases h)).alloc _) (HM.out.chg ((Chg.refl [] _).alloc _) (by simp)), fun k hk => ?_, HC3.out.alloc _⟩
    simp at hk
    rcases hk with rfl | rfl | rfl
    · exact HC3.out.size
    · exact HH.out
    · exact HCC.out.size
set_option maxHeartbeats 3200000 in
set_option maxRecDepth 100000 in
theorem copy_zero {w : World} {g p : Nat} (hB : Blk w g 55 #[.slice none 0 0, .map none, .int .u64 p]) :
    Calls Try.prog 18 #[.pointer (some ⟨g, 0, none⟩)] w (Copied w [] p) := by
  have c0 := hB.cell 0
  have c1 := hB.cell 1
  have c2 := hB.cell 2
  simp only [List.getElem?_toArray, List.getElem?_cons_succ, List.getElem?_cons_zero] at c0 c1 c2
  have HC : ∀ W, Calls Try.prog 33 #[.slice none 0 0] W fun e w' => e = .returned (.slice none 0 0) ∧ W = w' := fun W => (AnyE.slices_Clone_nil Try.cloneTm 0 0 W).mono fun e w' ⟨h1, h2⟩ => ⟨h1, h2.symm⟩
  have HMc : ∀ W, Calls Try.prog 34 #[.map none] W fun e w' => e = .returned (.map none) ∧ W = w' := fun W => (AnyW.maps_Clone_nil Try.cloneMap W).mono fun e w' ⟨h1, h2⟩ => ⟨h1, h2.symm⟩
  clear hB
  unfold Copied
  go_enter Try.func18, Try.ntmps18
  go_wp2
  go_region_held3 (fun w' => w'.cell? ⟨g, 0, none⟩ = some (.slice none 0 0) ∧ w'.cell? ⟨g, 1, none⟩ = some (.map none) ∧ w'.cell? ⟨g, 2, none⟩ = some (.int .u64 p))
    (first | go_keep)
    (first
      | (go_at_call 33; refine (HC _).mono ?_; rintro e w1 ⟨rfl, rfl⟩)
      | (go_at_call 34; refine (HMc _).mono ?_; rintro e w1 ⟨rfl, rfl⟩))
  all_goals
    go_wp2
    go_ret
    refine ⟨_, [_], rfl, .inl ⟨Blk.new w.drew 55 _, rfl, rfl⟩, fun k hk => ?_, (Chg.refl _ _).drew.alloc _⟩
    simp at hk
    simp [hk]
theorem copy_any {w : World} {g p : Nat} {S : List Nat} {K : List Tm} (H : HeapAt w g S K p) (hp : p ≤ 100000) :
    Calls Try.prog 18 #[.pointer (some ⟨g, 0, none⟩)] w (Copied w K p) := by
  rcases H with ⟨hB, rfl, rfl⟩ | ⟨h, b, c, m, ts, hm, hs, hmp, rfl⟩
  · exact copy_zero hB
  · exact copy_full hm hs hmp hp
/-! ### Same, of whatever two: nil is as one without timers -/
/-- A receiver that tells the timers l. -/
def Tells (w : World) (r : Value) (l : List (Int × Int)) : Prop := ∀ W, Chg [] w W → Calls Try.prog 12 #[r] W fun e w' => ∃ v, e = .returned v ∧ FreshN W w' v l
theorem HeapAt.tells {w : World} {g p : Nat} {S : List Nat} {K : List Tm} (H : HeapAt w g S K p) (hp : p ≤ 100000) : Tells w (.pointer (some ⟨g, 0, none⟩)) (K.map pr) := fun W hW => all_any (H.quiet hW) hp
theorem tells_nil (w : World) : Tells w (.pointer none) [] := fun W hW => by
  go_enter Try.func12, Try.ntmps12
  go_wp2
  go_ret
  exact ⟨_, rfl, FreshN.nil (Chg.refl _ _)⟩
theorem Tells.quiet {w w' : World} {r : Value} {l : List (Int × Int)} (h : Tells w r l) (hc : Chg [] w w') : Tells w' r l := fun W hW => h W (hc.then hW)
set_option maxHeartbeats 1600000 in
theorem same_any {w : World} {r o : Value} {l k : List (Int × Int)} (hr : Tells w r l) (ho : Tells w o k) (hl : l.length ≤ 100000) (hk : k.length ≤ 100000) :
    Calls Try.prog 20 #[r, o] w fun e w' => e = .returned (.bool (decide (l = k))) ∧ Chg [] w w' := by
  have a1 := hr w (Chg.refl _ _)
  have a2 := fun W (hW : Chg [] w W) => ho W hW
  obtain ⟨b, hb⟩ : ∃ b, b = decide (l = k) := ⟨_, rfl⟩
  have HE := fun W v1 v2 (h1 : Rs W 39 2 v1 l.length (nms l)) (h2 : Rs W 39 2 v2 k.length (nms k)) => equal_any h1 h2 hl hk
  rw [← hb] at HE ⊢
  clear hb
  go_enter Try.func20, Try.ntmps20
  go_wp2_with (first
    | (go_at_call 12; ((with_reducible refine a1.mono ?_); rintro e w1 ⟨v1, rfl, hf⟩); have F1 := Lib.hid hf; clear hf a1)
    | (go_at_call 12; refine (a2 _ F1.out.2.2).mono ?_; rintro e w2 ⟨v2, rfl, hf⟩; have F2 := Lib.hid hf; clear hf a2)
    | (go_at_call 35; refine (HE _ _ _ ((F1.out.later F2.out.2.2).rs) F2.out.rs).mono ?_; rintro e w3 ⟨rfl, hc⟩; have HC := Lib.hid hc; clear hc))
  go_ret
  exact ⟨rfl, (F1.out.2.2.then F2.out.2.2).then HC.out⟩
end Go.Proofs
