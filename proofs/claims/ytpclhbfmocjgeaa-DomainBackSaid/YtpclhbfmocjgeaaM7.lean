import Derived.Test.YtpclhbfmocjgeaaM6
import Derived.Laws.MakeOwn
import Derived.LoopTactic
section
namespace Go.Proofs
open Go.RowKit
set_option linter.unusedVariables false
set_option linter.unusedSimpArgs false

theorem Try.pl_info : (Try.prog.info? 108).map (fun i => (i.zero, i.size, i.bytes)) = some (some (.agg #[.int .u64 0, .bool false, .int .i64 0, .int .u64 0, .int .u64 0, .int .i64 0, .int .u64 0, .int .i64 0, .int .u64 0]), 9, 72) := by kernel_rfl
theorem made_pl (n : Nat) : (madeCells #[.int .u64 0, .bool false, .int .i64 0, .int .u64 0, .int .u64 0, .int .i64 0, .int .u64 0, .int .i64 0, .int .u64 0] (n * 9)).toList = plCells (List.replicate n pl0) := by
  refine List.ext_getElem? fun j => ?_
  unfold madeCells
  rw [Array.getElem?_toList]
  by_cases h : j < n * 9
  · have hk : (List.replicate n pl0)[j / 9]? = some pl0 := by rw [List.getElem?_replicate, if_pos (by omega)]
    have key : ∀ m, m < 9 → ∃ u, (Pl.cells pl0)[m]? = some u ∧ (#[Value.int .u64 0, .bool false, .int .i64 0, .int .u64 0, .int .u64 0, .int .i64 0, .int .u64 0, .int .i64 0, .int .u64 0] : Array Value)[m]! = u := fun m hm =>
      match m, hm with
      | 0, _ => ⟨_, rfl, rfl⟩
      | 1, _ => ⟨_, rfl, rfl⟩
      | 2, _ => ⟨_, rfl, rfl⟩
      | 3, _ => ⟨_, rfl, rfl⟩
      | 4, _ => ⟨_, rfl, rfl⟩
      | 5, _ => ⟨_, rfl, rfl⟩
      | 6, _ => ⟨_, rfl, rfl⟩
      | 7, _ => ⟨_, rfl, rfl⟩
      | 8, _ => ⟨_, rfl, rfl⟩
    obtain ⟨u, hu1, hu2⟩ := key (j % 9) (Nat.mod_lt _ (by omega))
    have hr : (plCells (List.replicate n pl0))[j / 9 * 9 + j % 9]? = some u := flat_at (enc := Pl.cells) (s := 9) (fun _ => rfl) hk hu1
    rw [show j / 9 * 9 + j % 9 = j by omega] at hr
    rw [hr]
    simp only [Array.getElem?_map, Array.getElem?_range, h, if_true, Option.map_some, Option.some.injEq]
    exact hu2
  · rw [List.getElem?_eq_none (by rw [plCells_len, List.length_replicate]; omega), Array.getElem?_eq_none (by simp; omega)]
def pl1 : Pl := ⟨1, false, 0, 0, 0, 0, 0, 0, 0⟩
def newL (n k : Nat) : List Pl := List.replicate k pl1 ++ List.replicate (n - k) pl0
def newF (n k : Nat) : List Nat := (List.range k).map (fun i => n - 1 - i)
theorem newL_len {n k : Nat} (h : k ≤ n) : (newL n k).length = n := by unfold newL; simp; omega
theorem newF_len (n k : Nat) : (newF n k).length = k := by unfold newF; simp
theorem newF_succ (n k : Nat) : newF n (k + 1) = newF n k ++ [n - 1 - k] := by unfold newF; rw [List.range_succ, List.map_append]; rfl
theorem newL_at {n k : Nat} (h : k < n) : (newL n k)[k]? = some pl0 := by
  unfold newL
  rw [List.getElem?_append_right (by simp), List.length_replicate, Nat.sub_self, List.getElem?_replicate, if_pos (by omega)]
theorem newL_set {n k : Nat} (h : k < n) : (newL n k).set k pl1 = newL n (k + 1) := by
  unfold newL
  rw [List.set_append_right _ _ (by simp)]
  have e : n - k = (n - (k + 1)) + 1 := by omega
  rw [e, List.replicate_succ, List.length_replicate, Nat.sub_self, List.set_cons_zero, List.replicate_succ', List.append_assoc]
  rfl
def rtab0 (n : Nat) : RTab := ⟨List.replicate n pl1, newF n n⟩
theorem newL_full (n : Nat) : newL n n = List.replicate n pl1 := by unfold newL; simp
set_option maxHeartbeats 3200000 in
set_option maxRecDepth 100000 in
theorem rnew_any (n : Nat) (hn0 : 1 ≤ n) (hn : n ≤ 32) (gs cpu per : Int) (w : World) :
    Calls Try.prog 33 #[.int .i64 (n : Nat), .int .i64 gs, .int .u64 cpu, .int .u64 per] w fun e w' => ∃ h S, e = .returned (ptr h) ∧ RefAt w' h S ((rtab0 n).put (rkid 0 0 gs cpu per)) ∧ (∀ k ∈ S, w.heap.size ≤ k) ∧ Chg [] w w' := by
  obtain ⟨i0, hi0, hz0, hz1, hz2⟩ := info_parts Try.pl_info
  obtain ⟨ni, hj0, hy0, hy1, hy2⟩ := info_parts Try.num_info_C
  have hmk : ∀ W : World, (Instr.makeSlice 104 (.int .i64 (n : Nat)) (.int .i64 (n : Nat))).run Try.prog W = .ok (.slice (some ⟨W.heap.size, 0, none⟩) n n) (W.alloc (.cells (madeCells #[.int .u64 0, .bool false, .int .i64 0, .int .u64 0, .int .u64 0, .int .i64 0, .int .u64 0, .int .i64 0, .int .u64 0] (n * 9)) 108)) := fun W => by
    have h := run_make (P := Try.prog) W 104 108 i0 _ Try.underlying104 hi0 hz0 .i64 .i64 (n : Nat) (n : Nat) (by omega) (by omega) (by rw [hz2]; omega) (by omega)
    rw [hz1] at h
    simp only [Int.toNat_natCast] at h
    exact h
  have hrow : ∀ W : World, Row (W.alloc (.cells (madeCells #[.int .u64 0, .bool false, .int .i64 0, .int .u64 0, .int .u64 0, .int .i64 0, .int .u64 0, .int .i64 0, .int .u64 0] (n * 9)) 108)) 108 9 (.slice (some ⟨W.heap.size, 0, none⟩) n n) n (plCells (newL n 0)) := fun W => by
    refine ⟨by rw [plCells_len, newL_len (by omega)], .inr ⟨W.heap.size, n, _, rfl, Blk.new W 108 _, Nat.le_refl _, by unfold maxLen; omega, by rw [size_madeCells]; exact Nat.le_refl _, ?_⟩⟩
    rw [made_pl, List.take_of_length_le (by rw [plCells_len]; simp)]
    unfold newL; simp
  obtain ⟨MC, hMC⟩ : ∃ MC : Obj, MC = .cells (madeCells #[.int .u64 0, .bool false, .int .i64 0, .int .u64 0, .int .u64 0, .int .i64 0, .int .u64 0, .int .i64 0, .int .u64 0] (n * 9)) 108 := ⟨_, rfl⟩
  rw [← hMC] at hrow hmk
  have HROW := Lib.hid hrow
  clear hrow hMC
  go_enter Try.func33, Try.ntmps33
  go_wp2
  go_loopg [10] n (fun gh iv wr => ∃ (k : Nat) (A : Option Addr) (c : Nat), k + gh = n ∧ iv = .int .i64 k ∧ Hid (Blk wr (w.heap.size + 1) 106 #[.slice (some ⟨w.heap.size, 0, none⟩) n n, .slice A k c] ∧ Row wr 108 9 (.slice (some ⟨w.heap.size, 0, none⟩) n n) n (plCells (newL n k)) ∧ Row wr 3 1 (.slice A k c) k (numCells (newF n k)) ∧ (∀ j ∈ foot (.slice A k c), w.heap.size + 2 ≤ j) ∧ Chg [] w wr))
  case atStart => exact ⟨0, none, 0, by omega, rfl, Lib.hid ⟨Blk.at' _ 106 _ (by simp), (HROW.out w).alloc _, Row.nil _ _ _, fun j hj => (by cases hj), ((Chg.refl [] w).alloc _).alloc _⟩⟩
  case round =>
    obtain ⟨k, A, c, hk, rfl, HH⟩ := hrel
    obtain ⟨hB, hL, hF, hft, hc⟩ := HH.out
    have c0 := hB.cell 0
    have c1 := hB.cell 1
    have f1 := hB.frozen 1
    have lB := hB.lt
    have hsz := hc.size
    by_cases hlt : k < n
    · have i0 : (0 : Int) ≤ (k : Int) := by omega
      have i1 : (k : Int) < (n : Int) := by omega
      obtain ⟨g2, c2, hv, _, _, hcell, hfz, lgl⟩ := hL.form (by omega)
      simp only [Value.slice.injEq, Option.some.injEq, Addr.mk.injEq] at hv
      obtain ⟨⟨rfl, h91⟩, h92, h93⟩ := hv
      clear h91 h92 h93
      obtain ⟨q0, _⟩ := plCells_at (newL n k) k pl0 (newL_at hlt)
      have b0 := hcell _ _ q0
      have g0 := hfz (k * 9)
      have e1 : IntKind.i64.wrap ((n : Int) - 1) = (n : Int) - 1 := IntWalk.i64_in _ (by omega)
      have e2 : IntKind.i64.wrap ((n : Int) - 1 - (k : Int)) = ((n - 1 - k : Nat) : Int) := by rw [show (n : Int) - 1 - (k : Int) = ((n - 1 - k : Nat) : Int) by omega]; exact IntWalk.i64_in _ (by omega)
      have hn1 : w.heap.size + 1 ∉ foot (.slice A k c) := fun h => by have := hft _ h; omega
      have hn2 : (Value.slice A k c).ownBlock ≠ some (w.heap.size + 1) := fun e => hn1 (row_mem e)
      have hn3 : w.heap.size ∉ foot (.slice A k c) := fun h => by have := hft _ h; omega
      have hcS : Chg [w.heap.size] wr (wr.setCell ⟨w.heap.size, k * 9, none⟩ (.int .u64 1)) := (Chg.refl _ _).setCell (.inl (by simp)) _
      have HB := Lib.hid (hB.chg hcS (by simp))
      have HL := Lib.hid (show Row (wr.setCell ⟨w.heap.size, k * 9, none⟩ (.int .u64 1)) 108 9 (.slice (some ⟨w.heap.size, 0, none⟩) n n) n (plCells (newL n (k + 1))) by
        rw [← newL_set hlt, pl_set (p' := pl1) (newL_at hlt) (j := 0) (u := .int .u64 1) rfl (by omega)]
        exact hL.set_ (by omega) _)
      have HF := Lib.hid (hF.chg hcS (fun j hj e => hn3 (by simp at e; exact e ▸ hj)))
      have HFT := Lib.hid hft
      have HC := Lib.hid hc
      clear hB hL hF hft hc HH hcell hfz q0 hcS
      go_wp2_with (at_builtin; refine wpList_append_row _ rfl _ _ 98 (by rfl) 3 ni _ 1 8 Try.underlying98 hj0 hy0 hy1 hy2 rfl (.slice A k c) k (numCells (newF n k)) (by rfl) (HF.out.alloc _) ⟨wr.heap.size, 0, none⟩ 1 1 [.int .i64 ((n - 1 - k : Nat) : Int)] (by rfl) (by rfl) (World.news_of_block (cs := #[.int .i64 ((n - 1 - k : Nat) : Int)]) (t := 3) (fr := (0, 0)) (by have h9 := heap_alloc_new (wr.setCell ⟨w.heap.size, k * 9, none⟩ (.int .u64 1)) (.cells #[.int .i64 ((n - 1 - k : Nat) : Int)] 3); simpa [World.setCell] using h9)) (by simp [Value.oneCell']) (by omega) (by unfold maxLen; omega) (by omega) (wr.heap.size + 1) (by simp [World.setCell]) ?_; intro gg cap w1 hown hgrow hat hlt1; have d1 := (hgrow.cell_far ⟨w.heap.size + 1, 1, none⟩ (by simp [World.setCell]; omega) (Ne.symm hn2)).trans ((HB.out.alloc _).cell 1); have df := (hgrow.frozen_far ⟨w.heap.size + 1, 1, none⟩ (by simp [World.setCell]; omega) (Ne.symm hn2)).trans ((HB.out.alloc _).frozen 1); have HOWN := Lib.hid hown; have HG := Lib.hid hgrow; have HAT := Lib.hid hat; clear hown hgrow hat)
      go_roundg (n - k - 1)
      case measure => omega
      case rel =>
        have hgg : gg ∈ foot (.slice A k c) ∨ gg = wr.heap.size + 1 := HAT.out.imp (fun h => row_mem h) id
        have hgb : w.heap.size + 2 ≤ gg := hgg.elim (fun h => HFT.out _ h) (fun h => by omega)
        have hc12 : Chg (foot (.slice A k c)) (wr.setCell ⟨w.heap.size, k * 9, none⟩ (.int .u64 1)) w1 := ((Chg.refl _ _).alloc _).grown HG.out (fun j hj => .inl (row_mem hj))
        have hcF : Chg [w.heap.size + 1] w1 (w1.setCell ⟨w.heap.size + 1, 1, none⟩ (.slice (some ⟨gg, 0, none⟩) (k + 1) cap)) := (Chg.refl _ _).setCell (.inl (by simp)) _
        refine ⟨k + 1, some ⟨gg, 0, none⟩, cap, by omega, by go_num, Lib.hid ⟨(HB.out.chg hc12 hn1).set_ 1 _, (HL.out.chg hc12 (fun j hj => by simp [foot_some] at hj; subst hj; exact hn3)).chg hcF (fun j hj => by simp [foot_some] at hj; subst hj; simp), ?_, fun j hj => by simp [foot_some] at hj; subst hj; exact hgb, ?_⟩⟩
        · rw [newF_succ, numCells_snoc]
          exact HOWN.out.far (by simp [foot_some]; omega) _
        · exact (((HC.out.setCell (.inr (by simp)) _).any.trans hc12 (fun j hj => .inl hj)).mono (S' := []) (fun j hj => .inr (by have := HFT.out j hj; omega))).trans hcF (fun j hj => by simp at hj; subst hj; right; omega)
    · obtain rfl : n = k := by omega
      have hR : RefAt wr (w.heap.size + 1) ((w.heap.size + 1) :: (foot (.slice (some ⟨w.heap.size, 0, none⟩) n n) ++ foot (.slice A n c))) (rtab0 n) := by
        refine ⟨_, _, hB, ?_, ?_, rfl⟩
        · rw [newL_full] at hL
          show Row _ 108 9 _ (List.replicate n pl1).length _
          rw [List.length_replicate]; exact hL
        · show Row _ 3 1 _ (newF n n).length _
          rw [newF_len]; exact hF
      have HP := Lib.hid (rput_at hR (by show (List.replicate n pl1).length ≤ 1000; simp; omega) (by show newF n n ≠ []; intro e; have := newF_len n n; rw [e] at this; simp at this; omega) (fun f hf => by
        show f < (List.replicate n pl1).length
        have : f ∈ newF n n := hf
        unfold newF at this
        simp at this
        obtain ⟨a, ha, rfl⟩ := this
        simp; omega) (by show (newF n n).length ≤ 1000; rw [newF_len]; omega) (rkid 0 0 gs cpu per))
      have HFT := Lib.hid hft
      have HC := Lib.hid hc
      obtain ⟨T0, hT0⟩ : ∃ T0, T0 = (rtab0 n).put (rkid 0 0 gs cpu per) := ⟨_, rfl⟩
      rw [← hT0] at HP
      have HT0 := Lib.hid hT0
      clear hB hL hF hft hc HH hR c0 c1 f1 hT0
      go_wp2_with (go_at_call 69; refine HP.out.mono ?_; rintro e w2 ⟨rfl, hT⟩; have HT := Lib.hid hT; clear hT)
      go_ret
      obtain ⟨S2, h1, h2, h3⟩ := HT.out
      refine ⟨w.heap.size + 1, S2, rfl, by rw [← HT0.out]; exact h1, fun j hj => ?_, ?_⟩
      · rcases h2 j hj with h | h
        · simp only [List.mem_cons, List.mem_append] at h
          rcases h with rfl | h | h
          · omega
          · simp [foot_some] at h; omega
          · have := HFT.out j h; omega
        · have := HC.out.size; omega
      · refine HC.out.trans h3 (fun j hj => ?_)
        simp only [List.mem_cons, List.mem_append] at hj
        right
        rcases hj with rfl | h | h
        · omega
        · simp [foot_some] at h; omega
        · have := HFT.out j h; omega
end Go.Proofs
end
section
namespace Go.Proofs
open Go.RowKit
set_option linter.unusedVariables false
set_option linter.unusedSimpArgs false

/-! ### Domains with their refs -/
  deriving instance DecidableEq for Dm
structure Plc where
  i : Int
  q : Int
  x : Dm
  deriving DecidableEq
abbrev Plc.val (p : Plc) : Value := .agg #[.int .i64 p.i, .int .u64 p.q, .int .i64 p.x.pi, .int .u64 p.x.pg, .int .i64 p.x.gs, .int .u64 p.x.cpu, .int .u64 p.x.per, .int .i64 p.x.cgs, .int .u64 p.x.car, .int .i64 p.x.own, .int .i64 p.x.live, .int .u64 p.x.used, .int .i64 p.x.ch]
abbrev Plc.arr (p : Plc) : Array Value := #[.int .i64 p.i, .int .u64 p.q, .int .i64 p.x.pi, .int .u64 p.x.pg, .int .i64 p.x.gs, .int .u64 p.x.cpu, .int .u64 p.x.per, .int .i64 p.x.cgs, .int .u64 p.x.car, .int .i64 p.x.own, .int .i64 p.x.live, .int .u64 p.x.used, .int .i64 p.x.ch]
def Plc.cells (p : Plc) : List Value := [.int .i64 p.i, .int .u64 p.q, .int .i64 p.x.pi, .int .u64 p.x.pg, .int .i64 p.x.gs, .int .u64 p.x.cpu, .int .u64 p.x.per, .int .i64 p.x.cgs, .int .u64 p.x.car, .int .i64 p.x.own, .int .i64 p.x.live, .int .u64 p.x.used, .int .i64 p.x.ch]
def plcCells (l : List Plc) : List Value := l.flatMap Plc.cells
theorem plcCells_len (l : List Plc) : (plcCells l).length = l.length * 13 := flat_len (enc := Plc.cells) (s := 13) (fun _ => rfl) l
theorem plcCells_snoc (l : List Plc) (p : Plc) : plcCells (l ++ [p]) = plcCells l ++ Plc.cells p := by unfold plcCells; simp
theorem plcCells_at {l : List Plc} {k : Nat} {p : Plc} (h : l[k]? = some p) : (plcCells l)[k * 13]? = some (.int .i64 p.i) ∧ (plcCells l)[k * 13 + 1]? = some (.int .u64 p.q) ∧ (plcCells l)[k * 13 + 2]? = some (.int .i64 p.x.pi) ∧ (plcCells l)[k * 13 + 3]? = some (.int .u64 p.x.pg) ∧ (plcCells l)[k * 13 + 4]? = some (.int .i64 p.x.gs) ∧ (plcCells l)[k * 13 + 5]? = some (.int .u64 p.x.cpu) ∧ (plcCells l)[k * 13 + 6]? = some (.int .u64 p.x.per) ∧ (plcCells l)[k * 13 + 7]? = some (.int .i64 p.x.cgs) ∧ (plcCells l)[k * 13 + 8]? = some (.int .u64 p.x.car) ∧ (plcCells l)[k * 13 + 9]? = some (.int .i64 p.x.own) ∧ (plcCells l)[k * 13 + 10]? = some (.int .i64 p.x.live) ∧ (plcCells l)[k * 13 + 11]? = some (.int .u64 p.x.used) ∧ (plcCells l)[k * 13 + 12]? = some (.int .i64 p.x.ch) := by
  have e := fun j u => flat_at (enc := Plc.cells) (s := 13) (fun _ => rfl) (j := j) (u := u) h
  exact ⟨e 0 _ rfl, e 1 _ rfl, e 2 _ rfl, e 3 _ rfl, e 4 _ rfl, e 5 _ rfl, e 6 _ rfl, e 7 _ rfl, e 8 _ rfl, e 9 _ rfl, e 10 _ rfl, e 11 _ rfl, e 12 _ rfl⟩
theorem Try.plc_info : (Try.prog.info? 47).map (fun i => (i.zero, i.size, i.bytes)) = some (some (.agg #[.int .i64 0, .int .u64 0, .int .i64 0, .int .u64 0, .int .i64 0, .int .u64 0, .int .u64 0, .int .i64 0, .int .u64 0, .int .i64 0, .int .i64 0, .int .u64 0, .int .i64 0]), 13, 104) := by kernel_rfl
theorem eq_ref_run (d : Nat) (a b c e : Int) (W : World) : (Op.equalIn (d + 2) 34 (.agg #[.int .i64 a, .int .u64 b]) (.agg #[.int .i64 c, .int .u64 e])).run Try.prog W = .ok (a == c && b == e) W := by
  have h1 : Try.prog.underlying 34 = some (.struct (Try.prog.fieldsOf 34)) := by kernel_rfl
  have h2 : Try.prog.stoodInHeld 34 = false := by kernel_rfl
  rw [run_equalIn_agg (ht := h1) (hp := h2)]
  simp [go_sem, Try.underlying34, Op.eqFields, Try.underlying3, Try.underlying22]
  by_cases e1 : a = c <;> by_cases e2 : b = e <;> simp [e1, e2]
set_option maxRecDepth 100000 in
set_option maxHeartbeats 1600000 in
theorem eq_dm_run (d : Nat) (a b : Dm) (W : World) : (Op.equalIn (d + 3) 45 a.val b.val).run Try.prog W = .ok (decide (a = b)) W := by
  have h1 : Try.prog.underlying 45 = some (.struct (Try.prog.fieldsOf 45)) := by kernel_rfl
  have h2 : Try.prog.stoodInHeld 45 = false := by kernel_rfl
  rw [run_equalIn_agg (ht := h1) (hp := h2)]
  obtain ⟨a0, a1, a2, a3, a4, a5, a6, a7, a8, a9, a10⟩ := a
  obtain ⟨b0, b1, b2, b3, b4, b5, b6, b7, b8, b9, b10⟩ := b
  have hr := fun W => eq_ref_run d a0 a1 b0 b1 W
  simp [go_sem, Try.underlying45, Op.eqFields, Try.underlying3, Try.underlying22, hr]
  by_cases e0 : a0 = b0
  · by_cases e1 : a1 = b1
    · by_cases e2 : a2 = b2
      · by_cases e3 : a3 = b3
        · by_cases e4 : a4 = b4
          · by_cases e5 : a5 = b5
            · by_cases e6 : a6 = b6
              · by_cases e7 : a7 = b7
                · by_cases e8 : a8 = b8
                  · by_cases e9 : a9 = b9
                    · by_cases e10 : a10 = b10
                      · simp [e0, e1, e2, e3, e4, e5, e6, e7, e8, e9, e10]
                      · simp [e0, e1, e2, e3, e4, e5, e6, e7, e8, e9, e10]
                    · simp [e0, e1, e2, e3, e4, e5, e6, e7, e8, e9]
                  · simp [e0, e1, e2, e3, e4, e5, e6, e7, e8]
                · simp [e0, e1, e2, e3, e4, e5, e6, e7]
              · simp [e0, e1, e2, e3, e4, e5, e6]
            · simp [e0, e1, e2, e3, e4, e5]
          · simp [e0, e1, e2, e3, e4]
        · simp [e0, e1, e2, e3]
      · simp [e0, e1, e2]
    · simp [e0, e1]
  · simp [e0]
set_option maxRecDepth 100000 in
set_option maxHeartbeats 1600000 in
theorem eq_plc_run (d : Nat) (a b : Plc) (W : World) : (Op.equalIn (d + 4) 47 a.val b.val).run Try.prog W = .ok (decide (a = b)) W := by
  have h1 : Try.prog.underlying 47 = some (.struct (Try.prog.fieldsOf 47)) := by kernel_rfl
  have h2 : Try.prog.stoodInHeld 47 = false := by kernel_rfl
  rw [run_equalIn_agg (ht := h1) (hp := h2)]
  obtain ⟨ai, aq, ax⟩ := a
  obtain ⟨bi, bq, bx⟩ := b
  have hr := fun W => eq_ref_run (d + 1) ai aq bi bq W
  have hd := fun W => eq_dm_run d ax bx W
  simp only [Plc.val]
  simp only [Dm.val] at hd
  simp [go_sem, Try.underlying47, Op.eqFields, hr, hd]
  by_cases e0 : ai = bi
  · by_cases e1 : aq = bq
    · by_cases e2 : ax = bx
      · simp [e0, e1, e2]
      · simp [e0, e1, e2]
    · simp [e0, e1]
  · simp [e0]
theorem neq_plc (a b : Plc) (W : World) : (binOp .neq 47 a.val b.val).run Try.prog W = .ok (.bool (!decide (a = b))) W := by
  rw [run_neq_struct, eq_plc_run 9996]; rfl
theorem eql_plc (a b : Plc) (W : World) : (binOp .eql 47 a.val b.val).run Try.prog W = .ok (.bool (decide (a = b))) W := by
  rw [run_eql_struct, eq_plc_run 9996]; rfl
theorem neq_dm (a b : Dm) (W : World) : (binOp .neq 45 a.val b.val).run Try.prog W = .ok (.bool (!decide (a = b))) W := by
  rw [run_neq_struct, eq_dm_run 9997]; rfl
theorem neq_refs (a b c e : Int) (W : World) : (binOp .neq 34 (.agg #[.int .i64 a, .int .u64 b]) (.agg #[.int .i64 c, .int .u64 e])).run Try.prog W = .ok (.bool (!(a == c && b == e))) W := by
  rw [run_neq_struct, eq_ref_run 9998]; rfl
end Go.Proofs
end
section
namespace Go.Proofs
open Go.RowKit
set_option linter.unusedVariables false
set_option linter.unusedSimpArgs false

set_option maxHeartbeats 3200000 in
set_option maxRecDepth 100000 in
theorem rSame_any {w : World} {V1 V2 : Value} {l1 l2 : List Plc} (h1 : Row w 47 13 V1 l1.length (plcCells l1)) (h2 : Row w 47 13 V2 l2.length (plcCells l2)) (hl1 : l1.length ≤ 1000) (hl2 : l2.length ≤ 1000) :
    Calls Try.prog 25 #[V1, V2] w fun e w' => e = .returned (.bool (decide (l1 = l2))) ∧ Chg [] w w' := by
  obtain ⟨A1, c1, rfl, _⟩ := h1.val
  obtain ⟨A2, c2, rfl, _⟩ := h2.val
  have H1 := Lib.hid h1
  have H2 := Lib.hid h2
  obtain ⟨n, hn⟩ : ∃ n, n = l1.length := ⟨_, rfl⟩
  obtain ⟨m, hm⟩ : ∃ m, m = l2.length := ⟨_, rfl⟩
  rw [← hn, ← hm]
  rw [← hn] at hl1
  have HN := Lib.hid hn
  have HM := Lib.hid hm
  clear h1 h2 hn hm
  by_cases hnm : n = m
  · subst hnm
    go_enter Try.func25, Try.ntmps25
    go_wp2
    go_loopg [5] n (fun gh iv wr => ∃ j : Nat, j + gh = n ∧ iv = .int .i64 j ∧ Hid (Chg [] w wr ∧ l1.take j = l2.take j))
    case atStart => exact ⟨0, by omega, rfl, Lib.hid ⟨Chg.refl _ _, rfl⟩⟩
    case round =>
      obtain ⟨j, hj, rfl, HH⟩ := hrel
      obtain ⟨hc, htk⟩ := HH.out
      by_cases hlt : j < n
      · have j0 : (0 : Int) ≤ (j : Int) := by omega
        have j1 : (j : Int) < (n : Int) := by omega
        obtain ⟨x, hx⟩ : ∃ x, l1[j]? = some x := ⟨_, List.getElem?_eq_getElem (by rw [← HN.out]; exact hlt)⟩
        obtain ⟨y, hy⟩ : ∃ y, l2[j]? = some y := ⟨_, List.getElem?_eq_getElem (by rw [← HM.out]; exact hlt)⟩
        obtain ⟨g1, d1, hv1, _, _, hcell1, _, lg1⟩ := H1.out.form (by rw [← HN.out]; omega)
        obtain ⟨g2, d2, hv2, _, _, hcell2, _, lg2⟩ := H2.out.form (by rw [← HM.out]; omega)
        simp only [Value.slice.injEq] at hv1 hv2
        obtain ⟨rfl, h91, h92⟩ := hv1
        obtain ⟨rfl, h93, h94⟩ := hv2
        clear h91 h92 h93 h94
        obtain ⟨p0, p1, p2, p3, p4, p5, p6, p7, p8, p9, p10, p11, p12⟩ := plcCells_at hx
        obtain ⟨q0, q1, q2, q3, q4, q5, q6, q7, q8, q9, q10, q11, q12⟩ := plcCells_at hy
        have x0 := (hc.cell (p := ⟨g1, j * 13, none⟩) lg1 (by simp)).trans (hcell1 _ _ p0)
        have x1 := (hc.cell (p := ⟨g1, j * 13 + 1, none⟩) lg1 (by simp)).trans (hcell1 _ _ p1)
        have x2 := (hc.cell (p := ⟨g1, j * 13 + 2, none⟩) lg1 (by simp)).trans (hcell1 _ _ p2)
        have x3 := (hc.cell (p := ⟨g1, j * 13 + 3, none⟩) lg1 (by simp)).trans (hcell1 _ _ p3)
        have x4 := (hc.cell (p := ⟨g1, j * 13 + 4, none⟩) lg1 (by simp)).trans (hcell1 _ _ p4)
        have x5 := (hc.cell (p := ⟨g1, j * 13 + 5, none⟩) lg1 (by simp)).trans (hcell1 _ _ p5)
        have x6 := (hc.cell (p := ⟨g1, j * 13 + 6, none⟩) lg1 (by simp)).trans (hcell1 _ _ p6)
        have x7 := (hc.cell (p := ⟨g1, j * 13 + 7, none⟩) lg1 (by simp)).trans (hcell1 _ _ p7)
        have x8 := (hc.cell (p := ⟨g1, j * 13 + 8, none⟩) lg1 (by simp)).trans (hcell1 _ _ p8)
        have x9 := (hc.cell (p := ⟨g1, j * 13 + 9, none⟩) lg1 (by simp)).trans (hcell1 _ _ p9)
        have x10 := (hc.cell (p := ⟨g1, j * 13 + 10, none⟩) lg1 (by simp)).trans (hcell1 _ _ p10)
        have x11 := (hc.cell (p := ⟨g1, j * 13 + 11, none⟩) lg1 (by simp)).trans (hcell1 _ _ p11)
        have x12 := (hc.cell (p := ⟨g1, j * 13 + 12, none⟩) lg1 (by simp)).trans (hcell1 _ _ p12)
        have y0 := (hc.cell (p := ⟨g2, j * 13, none⟩) lg2 (by simp)).trans (hcell2 _ _ q0)
        have y1 := (hc.cell (p := ⟨g2, j * 13 + 1, none⟩) lg2 (by simp)).trans (hcell2 _ _ q1)
        have y2 := (hc.cell (p := ⟨g2, j * 13 + 2, none⟩) lg2 (by simp)).trans (hcell2 _ _ q2)
        have y3 := (hc.cell (p := ⟨g2, j * 13 + 3, none⟩) lg2 (by simp)).trans (hcell2 _ _ q3)
        have y4 := (hc.cell (p := ⟨g2, j * 13 + 4, none⟩) lg2 (by simp)).trans (hcell2 _ _ q4)
        have y5 := (hc.cell (p := ⟨g2, j * 13 + 5, none⟩) lg2 (by simp)).trans (hcell2 _ _ q5)
        have y6 := (hc.cell (p := ⟨g2, j * 13 + 6, none⟩) lg2 (by simp)).trans (hcell2 _ _ q6)
        have y7 := (hc.cell (p := ⟨g2, j * 13 + 7, none⟩) lg2 (by simp)).trans (hcell2 _ _ q7)
        have y8 := (hc.cell (p := ⟨g2, j * 13 + 8, none⟩) lg2 (by simp)).trans (hcell2 _ _ q8)
        have y9 := (hc.cell (p := ⟨g2, j * 13 + 9, none⟩) lg2 (by simp)).trans (hcell2 _ _ q9)
        have y10 := (hc.cell (p := ⟨g2, j * 13 + 10, none⟩) lg2 (by simp)).trans (hcell2 _ _ q10)
        have y11 := (hc.cell (p := ⟨g2, j * 13 + 11, none⟩) lg2 (by simp)).trans (hcell2 _ _ q11)
        have y12 := (hc.cell (p := ⟨g2, j * 13 + 12, none⟩) lg2 (by simp)).trans (hcell2 _ _ q12)
        have hneq := neq_plc x y
        simp only [Plc.val] at hneq
        have ht1 : l1.take (j + 1) = l1.take j ++ [x] := by rw [List.take_add_one, hx]; rfl
        have ht2 : l2.take (j + 1) = l2.take j ++ [y] := by rw [List.take_add_one, hy]; rfl
        have HC := Lib.hid hc
        by_cases e : x = y
        · have HY := Lib.hid (show l1.take (j + 1) = l2.take (j + 1) by rw [ht1, ht2, htk, e])
          rw [decide_eq_true e] at hneq
          clear p0 q0 p1 q1 p2 q2 p3 q3 p4 q4 p5 q5 p6 q6 p7 q7 p8 q8 p9 q9 p10 q10 p11 q11 p12 q12 hcell1 hcell2 hx hy hc htk HH ht1 ht2 e
          go_wp2
          go_quiet (fail)
          go_wp2
          go_roundg (n - j - 1)
          case measure => omega
          case rel => exact ⟨j + 1, by omega, by go_num, Lib.hid ⟨HC.out.drewN _, HY.out⟩⟩
        · have HY := Lib.hid (show ¬ l1 = l2 from fun e' => e (by subst e'; rw [hx] at hy; exact Option.some.inj hy))
          rw [decide_eq_false e] at hneq
          clear p0 q0 p1 q1 p2 q2 p3 q3 p4 q4 p5 q5 p6 q6 p7 q7 p8 q8 p9 q9 p10 q10 p11 q11 p12 q12 hcell1 hcell2 hx hy hc htk HH ht1 ht2 e
          go_wp2
          go_quiet (fail)
          go_wp2
          go_ret
          exact ⟨by rw [decide_eq_false HY.out]; rfl, HC.out.drewN _⟩
      · obtain rfl : n = j := by omega
        have HY := Lib.hid (show l1 = l2 by rw [List.take_of_length_le (by rw [← HN.out]; exact Nat.le_refl _), List.take_of_length_le (by rw [← HM.out]; exact Nat.le_refl _)] at htk; exact htk)
        have HC := Lib.hid hc
        clear hc htk HH
        go_wp2
        go_ret
        exact ⟨by rw [decide_eq_true HY.out]; rfl, HC.out⟩
  · have hne : ((n : Int) == (m : Int)) = false := by simp; omega
    have hne2 : (n == m) = false := by simpa using hnm
    have HY := Lib.hid (show ¬ l1 = l2 from fun e => hnm (by rw [HN.out, HM.out, e]))
    go_enter Try.func25, Try.ntmps25
    go_wp2
    go_ret
    exact ⟨by rw [decide_eq_false HY.out]; rfl, Chg.refl _ _⟩
end Go.Proofs
end
