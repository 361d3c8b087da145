import Derived.Test.YtoddffpbbnicpaaRuL
import Derived.Laws.StructEq
namespace Go.Proofs
open Go.RowKit
set_option linter.unusedVariables false

/-! ### The queue, plainly -/
def halfN (n : Nat) : Nat := n - n / 2
def putL (M : Nat) (L : List Int) (x : Int) : List Int := if L.length < M then L ++ [x] else L.drop (halfN L.length)
def putS (M : Nat) (L : List Int) (x : Int) : List Int := if L.length < M then [] else L.take (halfN L.length) ++ [x]
def kickL (M : Nat) (L : List Int) : Option Int → List Int
  | none => L
  | some x => putL M L x
def kickS (M : Nat) (L : List Int) : Option Int → List Int
  | none => []
  | some x => putS M L x
/-- The queue in memory: at block q; its ring at g, h. -/
def QueueAt (w : World) (q g h M : Nat) (L : List Int) (N : Option Int) : Prop :=
  Blk w q 61 #[.pointer (some ⟨g, 0, none⟩), .int .i64 (N.getD 0), .bool N.isSome] ∧ RingAt w g h M L ∧ 2 ≤ M
section
variable {w w' : World} {q g h M : Nat} {L L' : List Int} {N : Option Int}
theorem QueueAt.ring (H : QueueAt w q g h M L N) : RingAt w g h M L := H.2.1
theorem QueueAt.ne (H : QueueAt w q g h M L N) : q ≠ g ∧ q ≠ h ∧ g ≠ h := by
  obtain ⟨hB, hR, _⟩ := H
  have h3 := hR.ne
  obtain ⟨zs, f, c, _, hB2, hrow⟩ := hR
  refine ⟨hB.ty hB2 (by decide), ?_, h3⟩
  have := hrow.ty hB (by decide)
  simpa [foot_some] using this
theorem QueueAt.lt (H : QueueAt w q g h M L N) : ∀ k ∈ [q, g, h], k < w.heap.size := fun k hk => by
  rcases List.mem_cons.1 hk with rfl | hk
  · exact H.1.lt
  · exact H.2.1.lt k hk
theorem QueueAt.same (H : QueueAt w q g h M L N) (hk : ∀ k ∈ [q, g, h], w'.heap[k]? = w.heap[k]?) : QueueAt w' q g h M L N :=
  ⟨H.1.same (hk q (by simp)), H.2.1.same (fun k hm => hk k (List.mem_cons_of_mem _ hm)), H.2.2⟩
theorem QueueAt.chg {S : List Nat} (H : QueueAt w q g h M L N) (hc : Chg S w w') (hn : ∀ k ∈ [q, g, h], k ∉ S) : QueueAt w' q g h M L N := H.same fun k hk => hc.block k (H.lt k hk) (hn k hk)
theorem QueueAt.quiet (H : QueueAt w q g h M L N) (hc : Chg [] w w') : QueueAt w' q g h M L N := H.chg hc (fun _ _ hk => by cases hk)
theorem Chg.wide (hc : Chg [g, h] w w') : Chg [q, g, h] w w' := hc.mono (fun k hk => .inl (List.mem_cons_of_mem _ hk))
theorem QueueAt.turn (H : QueueAt w q g h M L N) (hR : RingAt w' g h M L') (hc : Chg [g, h] w w') : QueueAt w' q g h M L' N ∧ Chg [q, g, h] w w' := by
  have hne := H.ne
  exact ⟨⟨H.1.chg hc (fun hm => by simp at hm; rcases hm with h9 | h9 <;> simp [h9] at hne), hR, H.2.2⟩, hc.wide⟩
theorem QueueAt.store (H : QueueAt w q g h M L N) (N' : Option Int) : QueueAt ((w.setCell ⟨q, 1, none⟩ (.int .i64 (N'.getD 0))).setCell ⟨q, 2, none⟩ (.bool N'.isSome)) q g h M L N' := by
  have hne := H.ne
  refine ⟨?_, (H.ring.chg (((Chg.refl [q] w).setCell (p := ⟨q, 1, none⟩) (.inl (by simp)) _).setCell (p := ⟨q, 2, none⟩) (.inl (by simp)) _) (fun k hk hm => ?_)), H.2.2⟩
  · have := (H.1.set_ 1 (.int .i64 (N'.getD 0))).set_ 2 (.bool N'.isSome)
    simpa using this
  · simp at hk hm
    subst hm
    rcases hk with h9 | h9 <;> simp [h9] at hne
theorem QueueAt.small (H : QueueAt w q g h M L N) : L.length ≤ 4096 ∧ L.length ≤ M ∧ M ≤ 4096 := by
  obtain ⟨_, ⟨zs, f, c, hl, _⟩, _⟩ := H
  exact ⟨Nat.le_trans hl.many hl.z1, hl.many, hl.z1⟩
theorem QueueAt.cells (H : QueueAt w q g h M L N) : (∀ W, Chg [] w W → W.cell? ⟨q, 0, none⟩ = some (.pointer (some ⟨g, 0, none⟩)) ∧ W.cell? ⟨q, 1, none⟩ = some (.int .i64 (N.getD 0)) ∧ W.cell? ⟨q, 2, none⟩ = some (.bool N.isSome)) := fun W hW =>
  ⟨(hW.cell (p := ⟨q, 0, none⟩) H.1.lt (by simp)).trans (H.1.cell 0), (hW.cell (p := ⟨q, 1, none⟩) H.1.lt (by simp)).trans (H.1.cell 1), (hW.cell (p := ⟨q, 2, none⟩) H.1.lt (by simp)).trans (H.1.cell 2)⟩
end
section
variable {w : World} {q g h M : Nat} {L : List Int} {N : Option Int}
theorem none_any (H : QueueAt w q g h M L N) : Calls Try.prog 37 #[.pointer (some ⟨q, 0, none⟩)] w fun e w' => e = .returned (.bool false) ∧ w = w' := by
  have c0 := H.1.cell 0
  clear H
  go_enter Try.func37, Try.ntmps37
  go_wp2
  go_ret
  exact ⟨rfl, rfl⟩
theorem half_any (n : Nat) (hn : n ≤ 8192) (w : World) : Calls Try.prog 40 #[.int .i64 (n : Nat)] w fun e w' => e = .returned (.int .i64 (halfN n : Nat)) ∧ w = w' := by
  have e : Hid ((n : Int) - (n : Int) / 2 = (halfN n : Nat)) := Lib.hid (by unfold halfN; omega)
  go_enter Try.func40, Try.ntmps40
  go_wp2
  rw [e.out]
  go_ret
  exact ⟨rfl, rfl⟩
set_option maxHeartbeats 800000 in
theorem empty_any (H : QueueAt w q g h M L N) : Calls Try.prog 39 #[.pointer (some ⟨q, 0, none⟩)] w fun e w' => ∃ v, e = .returned v ∧ QueueAt w' q g h M [] N ∧ Row w' 3 1 v L.length (ints L) ∧ (∀ k ∈ foot v, w.heap.size ≤ k) ∧ Chg [q, g, h] w w' := by
  have hs := H.small
  have c0 := H.cells
  have hL := fun W (hW : Chg [] w W) => len_any (H.ring.quiet hW)
  have hT := fun W (hW : Chg [] w W) => take_any (H.ring.quiet hW) (L.length : Nat) (by omega) (by omega)
  obtain ⟨m, hm⟩ : ∃ m, m = L.length := ⟨_, rfl⟩
  simp only [Int.toNat_natCast, List.take_length, List.drop_length] at hT
  have HH := Lib.hid H
  rw [← hm] at hL
  simp only [← hm] at hT
  have HM := Lib.hid hm
  have HQ := Lib.hid (fun W (hW : Chg [g, h] w.drew W) => (show W.cell? ⟨q, 0, none⟩ = some (.pointer (some ⟨g, 0, none⟩)) from (hW.cell (p := ⟨q, 0, none⟩) H.1.lt (by have := H.ne; simp; exact ⟨this.1, this.2.1⟩)).trans (H.1.cell 0)))
  clear H hs hm
  have k0 := (c0 w (Chg.refl _ _)).1
  go_enter Try.func39, Try.ntmps39
  go_wp2
  go_region_held3 (fun w' => w'.cell? ⟨q, 0, none⟩ = some (.pointer (some ⟨g, 0, none⟩)))
    (first | go_keep)
    (first
      | (go_at_call 49; refine (hL _ ((Chg.refl _ _).drew)).mono ?_; rintro e w' ⟨rfl, rfl⟩)
      | (go_at_call 59; refine (hT _ ((Chg.refl _ _).drew)).mono ?_; rintro e w2 ⟨v, rfl, hTk⟩; have k2 := HQ.out _ hTk.2.2.2; have HT := Lib.hid hTk; clear hTk))
  all_goals
    go_wp2
    go_ret
    obtain ⟨t1, t2, t3, t4⟩ := HT.out
    have hq := (HH.out.quiet (Chg.refl _ _).drew).turn t1 t4
    rw [HM.out] at *
    exact ⟨_, rfl, hq.1, t2, t3, ((Chg.any ((Chg.refl [] w).drew)).trans hq.2 (fun k hk => .inl hk))⟩
/-- The ring in the midst: more of those that are read have been pushed. -/
theorem push_some {w : World} {g h M : Nat} {L : List Int} (H : RingAt w g h M L) (x : Int) (hm : L.length < M) :
    Calls Try.prog 38 #[.pointer (some ⟨g, 0, none⟩), .int .i64 x] w fun e w' => e = .returned (.int .i64 0) ∧ RingAt w' g h M (L ++ [x]) ∧ Chg [g, h] w w' := push_room H x hm
set_option maxHeartbeats 1600000 in
theorem stay_any {Q R : List Int} {v : Value} (H : QueueAt w q g h M Q N) (hR : Rd w v R) (hd : ∀ k ∈ foot v, k ∉ [q, g, h]) (hroom : Q.length + R.length ≤ M) :
    Calls Try.prog 41 #[.pointer (some ⟨q, 0, none⟩), v] w fun e w' => e = .returned (.tuple #[]) ∧ QueueAt w' q g h M (Q ++ R) N ∧ Chg [q, g, h] w w' := by
  obtain ⟨A, c, rfl, _, _, _, o⟩ := hR.open_
  have hs := H.small
  obtain ⟨n, hn⟩ : ∃ n, n = R.length := ⟨_, rfl⟩
  rw [← hn] at hroom
  have hbd : ∀ k x, R[k]? = some x → ∃ b p, A = some ⟨b, p, none⟩ ∧ b ∉ [q, g, h] ∧ b < w.heap.size ∧ w.cell? ⟨b, p + k, none⟩ = some (.int .i64 x) := fun k x hk => by
    obtain ⟨b, p, rfl, h1, h2⟩ := o k x hk
    exact ⟨b, p, rfl, hd b (by simp [foot_some]), h1, h2⟩
  have HB := Lib.hid hbd
  have HN := Lib.hid hn
  rw [← hn]
  have HH := Lib.hid H
  clear hR hd o hbd hn H
  go_enter Try.func41, Try.ntmps41
  go_wp2
  go_loopw [8] (fun i wr => ∃ k : Nat, k ≤ n ∧ i = .int .i64 k ∧ Hid (QueueAt wr q g h M (Q ++ R.take k) N ∧ Chg [q, g, h] w wr)) (fun i _ => n - (intOf i).toNat)
  case atStart => exact ⟨0, Nat.zero_le _, rfl, Lib.hid ⟨by rw [List.take_zero, List.append_nil]; exact HH.out, Chg.refl _ _⟩⟩
  case round =>
    obtain ⟨k, hk, rfl, HK⟩ := hrel
    by_cases hlt : k < n
    · obtain ⟨x, hx⟩ : ∃ x, R[k]? = some x := ⟨_, List.getElem?_eq_getElem (by rw [← HN.out]; exact hlt)⟩
      obtain ⟨b, p, rfl, hb, hbl, hc⟩ := HB.out k x hx
      have e1 := (HK.out.2.cell (p := ⟨b, p + k, none⟩) hbl hb).trans hc
      have c0 := (HK.out.1.cells wr (Chg.refl _ _)).1
      have HT := Lib.hid (show R.take k ++ [x] = R.take (k + 1) by
        obtain ⟨hk9, rfl⟩ := List.getElem?_eq_some_iff.1 hx
        exact (List.take_succ_eq_append_getElem hk9).symm)
      have hlen : (Q ++ R.take k).length < M := by
        have := HN.out
        rw [List.length_append, List.length_take]; omega
      have i0 : (0 : Int) ≤ (k : Int) := by omega
      have i1 : (k : Int) < (n : Int) := by omega
      clear hx hb hbl hc
      go_wp2_with (go_at_call 38; refine (push_some HK.out.1.ring x hlen).mono ?_; rintro e w2 ⟨rfl, h2, hc2⟩; have HQ := Lib.hid (HK.out.1.turn h2 hc2); clear h2 hc2)
      go_roundw
      case rel => exact ⟨k + 1, by omega, by go_num, Lib.hid ⟨by rw [← HT.out, ← List.append_assoc]; exact HQ.out.1, HK.out.2.trans HQ.out.2 (fun k hk => .inl hk)⟩⟩
      case measure => simp [intOf]; omega
    · obtain rfl : k = n := by omega
      have HE := Lib.hid (show R.take k = R by rw [HN.out, List.take_length])
      go_wp2
      go_end0
      have := HK.out
      rw [HE.out] at this
      exact ⟨rfl, this⟩
set_option maxHeartbeats 800000 in
theorem leave_any (H : QueueAt w q g h M L N) : Calls Try.prog 43 #[.pointer (some ⟨q, 0, none⟩)] w fun e w' => e = .returned (.tuple #[.int .i64 (N.getD 0), .bool N.isSome]) ∧ QueueAt w' q g h M L none ∧ Chg [q, g, h] w w' := by
  have c1 := H.1.cell 1
  have c2 := H.1.cell 2
  have f1 := H.1.frozen 1
  have f2 := H.1.frozen 2
  have n1 := World.new_ne w _ c1
  have lq := H.1.lt
  have HH := Lib.hid H
  obtain ⟨a, ha⟩ : ∃ a, a = N.getD 0 := ⟨_, rfl⟩
  obtain ⟨b, hb⟩ : ∃ b, b = N.isSome := ⟨_, rfl⟩
  simp only [List.getElem?_toArray, List.getElem?_cons_succ, List.getElem?_cons_zero, ← ha, ← hb] at c1 c2
  rw [← ha, ← hb]
  clear H ha hb
  go_enter Try.func43, Try.ntmps43
  go_wp2
  go_quiet (fail)
  go_wp2
  go_ret2
  have hc : Chg [q, g, h] w ((((w.setCell ⟨q, 1, none⟩ (.int .i64 0)).setCell ⟨q, 2, none⟩ (.bool false)).alloc (.cells #[.int .i64 a, .bool b] 59)).drewN nq) :=
    ((((Chg.refl _ _).setCell (p := ⟨q, 1, none⟩) (.inl (by simp)) _).setCell (p := ⟨q, 2, none⟩) (.inl (by simp)) _).alloc _).drewN _
  exact ⟨rfl, (HH.out.store none).quiet (((Chg.refl _ _).alloc _).drewN _), hc⟩
end
end Go.Proofs
