/- Joined texts of the proof. -/
import Derived.Test.YtcmahiphfpgadaaGreatDoorJ14
import Derived.Test.YtcmahiphfpgadaaGreatDoorJ13

/- The document's own weight of statements: it is told, whatever it is. -/
namespace Go.Proofs.YtcmahiphfpgadaaGreatDoor
open Go.RowKit
set_option linter.unusedVariables false

def WtLW (B : Nat) (xs : List ST) : Prop := ∀ (a : Option Addr) (c : Nat) (w : World), RowS B w a c xs → B ≤ w.heap.size → Calls Tryz.prog 64 #[.slice a xs.length c] w fun r w' => IsI r ∧ Below w.heap.size w w'
def WtSW (B : Nat) : ST → Prop
  | .mk _ _ _ _ _ body _ _ els => WtLW B body ∧ WtLW B els

set_option maxRecDepth 100000 in
set_option maxHeartbeats 6400000 in
theorem weightStmts_of (B : Nat) (xs : List ST) (hS : ∀ x ∈ xs, WtSW B x) : WtLW B xs := by
  intro a c w h1 hBw
  obtain ⟨n, hn⟩ : ∃ n, Hid (n = xs.length) := ⟨_, (rfl : xs.length = _)⟩
  have hl1 := h1.1
  have hk1 := h1.2.1
  rw [← hn.out] at hl1 hk1 ⊢
  have HR : Hid (RowS B w a c xs) := h1
  have HS : Hid (∀ x ∈ xs, WtSW B x) := hS
  clear h1 hS
  go_enter Tryz.func64, Tryz.ntmps64
  go_wp2_with fail
  go_loopw [3, 4] (fun u j wr => ∃ i : Nat, j = .int .i64 (i : Int) ∧ i ≤ n ∧ Hid ((∃ z : Int, u = .int .i64 z) ∧ Below w.heap.size w wr)) (fun u j _ => n - (intOf j).toNat)
  case atStart => exact ⟨0, rfl, by omega, ⟨0, rfl⟩, Below.refl _ _⟩
  case round =>
    obtain ⟨i, rfl, hi, hX⟩ := hrel
    obtain ⟨⟨z, rfl⟩, hbw⟩ := hX.out
    by_cases hc : i < n
    · obtain ⟨x, hx⟩ : ∃ k, xs[i]? = some k := ⟨xs[i]'(by rw [← hn.out]; exact hc), by rw [List.getElem?_eq_getElem]⟩
      have hold : Old B w wr := Old.of_below hbw hBw
      obtain ⟨g1, o1, rfl, hg1, hr1, hx1⟩ := (HR.out.old hold).at i x hx
      have hKS := HS.out x (List.mem_of_getElem? hx)
      obtain ⟨k, nm, ⟨op, t, b, enm, ea, ec, eks⟩, a1, c1, b1, a2, c2, b2⟩ := x
      obtain ⟨hKb, hKe⟩ := hKS
      unfold ST.In at hx1
      obtain ⟨_, xe, x1, x2⟩ := hx1
      have hsz : B ≤ wr.heap.size := by have := hbw.size; omega
      have q1 : ∀ w', Below wr.heap.size wr w' → Calls Tryz.prog 7 #[.agg #[.int .u8 (op : Int), .int .u8 (t : Int), .int .u64 (b : Int), .string enm, .slice ea eks.length ec]] w' fun r w'' => IsI r ∧ Below w'.heap.size w' w'' := fun w' h => weight_any B _ (.mk op t b enm ea ec eks) (Nat.lt_succ_self _) w' (xe.old (Old.of_below h hsz)) (by have := h.size; omega)
      have q2 : ∀ w', Below wr.heap.size wr w' → Calls Tryz.prog 64 #[.slice a1 b1.length c1] w' fun r w'' => IsI r ∧ Below w'.heap.size w' w'' := fun w' h => hKb a1 c1 w' (RowS.old x1 (Old.of_below h hsz)) (by have := h.size; omega)
      have q3 : ∀ w', Below wr.heap.size wr w' → Calls Tryz.prog 64 #[.slice a2 b2.length c2] w' fun r w'' => IsI r ∧ Below w'.heap.size w' w'' := fun w' h => hKe a2 c2 w' (RowS.old x2 (Old.of_below h hsz)) (by have := h.size; omega)
      simp only [ST.cells, ET.cells] at hr1
      generalize eks.length = en at q1 hr1
      generalize b1.length = n1 at q2 hr1
      generalize b2.length = n2 at q3 hr1
      have hr1 : wr.rangeAt g1 (o1 + i * 9) (st9 k nm (ex5 op t b enm (.slice ea en ec)) (.slice a1 n1 c1) (.slice a2 n2 c2)) := hr1
      have HE : Hid (∀ w', Below wr.heap.size wr w' → w'.cell? ⟨g1, o1 + i * 9, none⟩ = some (.int .i64 k) ∧ w'.cell? ⟨g1, o1 + i * 9 + 1, none⟩ = some (.string nm) ∧ w'.cell? ⟨g1, o1 + i * 9 + 2, none⟩ = some (.int .u8 (op : Int)) ∧ w'.cell? ⟨g1, o1 + i * 9 + 3, none⟩ = some (.int .u8 (t : Int)) ∧ w'.cell? ⟨g1, o1 + i * 9 + 4, none⟩ = some (.int .u64 (b : Int)) ∧ w'.cell? ⟨g1, o1 + i * 9 + 5, none⟩ = some (.string enm) ∧ w'.cell? ⟨g1, o1 + i * 9 + 6, none⟩ = some (.slice ea en ec) ∧ w'.cell? ⟨g1, o1 + i * 9 + 7, none⟩ = some (.slice a1 n1 c1) ∧ w'.cell? ⟨g1, o1 + i * 9 + 8, none⟩ = some (.slice a2 n2 c2)) := fun w' h => st_mid ((Old.of_below (B := B) h hsz).range hg1 hr1)
      have Q1 : Hid _ := q1
      have Q2 : Hid _ := q2
      have Q3 : Hid _ := q3
      have hS0 : Below wr.heap.size wr wr.drew := Below.drew (Below.refl _ _)
      clear hX hx hold hr1 xe x1 x2 q1 q2 q3 hKb hKe HR HS
      go_wp2_with fail
      refine wp_region_held_drew (S := fun x => Below wr.heap.size wr x) (by kernel_rfl) hS0 (fun _ => ?_)
      refine wpAnyH_take (i := 0) (oi := { dst := some 11, op := .move (.tmp 3), type := _, pos := _, after := _, guard := none }) (v := .int .i64 z) rfl (by kernel_rfl) (by kernel_rfl) (by kernel_rfl) (fun _ _ _ h => h) (Or.inl ⟨by rfl, ?_⟩) hS0 ?_
      · intro w hSw
        go_simp
      simp only [Act.put, List.setIfInBounds_toArray, List.set_cons_zero, List.set_cons_succ]
      refine wpAnyH_take (i := 1) (oi := { dst := some 12, op := .binOp .add 3 (.tmp 11) (.const (.int .i64 1)) 3, type := _, pos := _, after := _, guard := none }) (v := .int .i64 (IntKind.i64.wrap (z + 1))) rfl (by kernel_rfl) (by kernel_rfl) (by kernel_rfl) (fun _ _ _ h => h) (Or.inl ⟨by rfl, ?_⟩) hS0 ?_
      · intro w hSw
        go_simp
      simp only [Act.put, List.setIfInBounds_toArray, List.set_cons_zero, List.set_cons_succ]
      refine wpAnyH_take (i := 2) (oi := { dst := some 13, op := .move (.tmp 0), type := _, pos := _, after := _, guard := none }) (v := .slice (some ⟨g1, o1, none⟩) n c) rfl (by kernel_rfl) (by kernel_rfl) (by kernel_rfl) (fun _ _ _ h => h) (Or.inl ⟨by rfl, ?_⟩) hS0 ?_
      · intro w hSw
        go_simp
      simp only [Act.put, List.setIfInBounds_toArray, List.set_cons_zero, List.set_cons_succ]
      refine wpAnyH_take (i := 3) (oi := { dst := some 14, op := .move (.tmp 4), type := _, pos := _, after := _, guard := none }) (v := .int .i64 (i : Int)) rfl (by kernel_rfl) (by kernel_rfl) (by kernel_rfl) (fun _ _ _ h => h) (Or.inl ⟨by rfl, ?_⟩) hS0 ?_
      · intro w hSw
        go_simp
      simp only [Act.put, List.setIfInBounds_toArray, List.set_cons_zero, List.set_cons_succ]
      refine wpAnyH_take (i := 4) (oi := { dst := some 15, op := .indexAddr 57 (.tmp 13) (.tmp 14), type := _, pos := _, after := _, guard := none }) (v := .pointer (some ⟨g1, o1 + i * 9, none⟩)) rfl (by kernel_rfl) (by kernel_rfl) (by kernel_rfl) (fun _ _ _ h => h) (Or.inl ⟨by rfl, ?_⟩) hS0 ?_
      · intro w hSw
        go_simp
      simp only [Act.put, List.setIfInBounds_toArray, List.set_cons_zero, List.set_cons_succ]
      refine wpAnyH_take (i := 5) (oi := { dst := some 16, op := .fieldAddr 87 (.tmp 15) 2, type := _, pos := _, after := _, guard := none }) (v := .pointer (some ⟨g1, o1 + i * 9 + 2, none⟩)) rfl (by kernel_rfl) (by kernel_rfl) (by kernel_rfl) (fun _ _ _ h => h) (Or.inl ⟨by rfl, ?_⟩) hS0 ?_
      · intro w hSw
        go_simp
      simp only [Act.put, List.setIfInBounds_toArray, List.set_cons_zero, List.set_cons_succ]
      refine wpAnyH_take (i := 6) (oi := { dst := some 17, op := .load 34 (.tmp 16), type := _, pos := _, after := _, guard := none }) (v := .agg #[.int .u8 (op : Int), .int .u8 (t : Int), .int .u64 (b : Int), .string enm, .slice ea en ec]) rfl (by kernel_rfl) (by kernel_rfl) (by kernel_rfl) (fun _ _ _ h => h) (Or.inl ⟨by rfl, ?_⟩) hS0 ?_
      · intro w hSw
        obtain ⟨-, -, z2, z3, z4, z5, z6, -, -⟩ := HE.out w hSw
        go_simp
      simp only [Act.put, List.setIfInBounds_toArray, List.set_cons_zero, List.set_cons_succ]
      refine wpAnyH_take (i := 9) (oi := { dst := some 20, op := .move (.tmp 0), type := _, pos := _, after := _, guard := none }) (v := .slice (some ⟨g1, o1, none⟩) n c) rfl (by kernel_rfl) (by kernel_rfl) (by kernel_rfl) (fun _ _ _ h => h) (Or.inl ⟨by rfl, ?_⟩) hS0 ?_
      · intro w hSw
        go_simp
      simp only [Act.put, List.setIfInBounds_toArray, List.set_cons_zero, List.set_cons_succ]
      refine wpAnyH_take (i := 10) (oi := { dst := some 21, op := .move (.tmp 4), type := _, pos := _, after := _, guard := none }) (v := .int .i64 (i : Int)) rfl (by kernel_rfl) (by kernel_rfl) (by kernel_rfl) (fun _ _ _ h => h) (Or.inl ⟨by rfl, ?_⟩) hS0 ?_
      · intro w hSw
        go_simp
      simp only [Act.put, List.setIfInBounds_toArray, List.set_cons_zero, List.set_cons_succ]
      refine wpAnyH_take (i := 11) (oi := { dst := some 22, op := .indexAddr 57 (.tmp 20) (.tmp 21), type := _, pos := _, after := _, guard := none }) (v := .pointer (some ⟨g1, o1 + i * 9, none⟩)) rfl (by kernel_rfl) (by kernel_rfl) (by kernel_rfl) (fun _ _ _ h => h) (Or.inl ⟨by rfl, ?_⟩) hS0 ?_
      · intro w hSw
        go_simp
      simp only [Act.put, List.setIfInBounds_toArray, List.set_cons_zero, List.set_cons_succ]
      refine wpAnyH_take (i := 12) (oi := { dst := some 23, op := .fieldAddr 87 (.tmp 22) 3, type := _, pos := _, after := _, guard := none }) (v := .pointer (some ⟨g1, o1 + i * 9 + 7, none⟩)) rfl (by kernel_rfl) (by kernel_rfl) (by kernel_rfl) (fun _ _ _ h => h) (Or.inl ⟨by rfl, ?_⟩) hS0 ?_
      · intro w hSw
        go_simp
      simp only [Act.put, List.setIfInBounds_toArray, List.set_cons_zero, List.set_cons_succ]
      refine wpAnyH_take (i := 13) (oi := { dst := some 24, op := .load 57 (.tmp 23), type := _, pos := _, after := _, guard := none }) (v := .slice a1 n1 c1) rfl (by kernel_rfl) (by kernel_rfl) (by kernel_rfl) (fun _ _ _ h => h) (Or.inl ⟨by rfl, ?_⟩) hS0 ?_
      · intro w hSw
        have z7 := (HE.out w hSw).2.2.2.2.2.2.2.1
        go_simp
      simp only [Act.put, List.setIfInBounds_toArray, List.set_cons_zero, List.set_cons_succ]
      refine wpAnyH_take (i := 16) (oi := { dst := some 27, op := .move (.tmp 0), type := _, pos := _, after := _, guard := none }) (v := .slice (some ⟨g1, o1, none⟩) n c) rfl (by kernel_rfl) (by kernel_rfl) (by kernel_rfl) (fun _ _ _ h => h) (Or.inl ⟨by rfl, ?_⟩) hS0 ?_
      · intro w hSw
        go_simp
      simp only [Act.put, List.setIfInBounds_toArray, List.set_cons_zero, List.set_cons_succ]
      refine wpAnyH_take (i := 17) (oi := { dst := some 28, op := .move (.tmp 4), type := _, pos := _, after := _, guard := none }) (v := .int .i64 (i : Int)) rfl (by kernel_rfl) (by kernel_rfl) (by kernel_rfl) (fun _ _ _ h => h) (Or.inl ⟨by rfl, ?_⟩) hS0 ?_
      · intro w hSw
        go_simp
      simp only [Act.put, List.setIfInBounds_toArray, List.set_cons_zero, List.set_cons_succ]
      refine wpAnyH_take (i := 18) (oi := { dst := some 29, op := .indexAddr 57 (.tmp 27) (.tmp 28), type := _, pos := _, after := _, guard := none }) (v := .pointer (some ⟨g1, o1 + i * 9, none⟩)) rfl (by kernel_rfl) (by kernel_rfl) (by kernel_rfl) (fun _ _ _ h => h) (Or.inl ⟨by rfl, ?_⟩) hS0 ?_
      · intro w hSw
        go_simp
      simp only [Act.put, List.setIfInBounds_toArray, List.set_cons_zero, List.set_cons_succ]
      refine wpAnyH_take (i := 19) (oi := { dst := some 30, op := .fieldAddr 87 (.tmp 29) 4, type := _, pos := _, after := _, guard := none }) (v := .pointer (some ⟨g1, o1 + i * 9 + 8, none⟩)) rfl (by kernel_rfl) (by kernel_rfl) (by kernel_rfl) (fun _ _ _ h => h) (Or.inl ⟨by rfl, ?_⟩) hS0 ?_
      · intro w hSw
        go_simp
      simp only [Act.put, List.setIfInBounds_toArray, List.set_cons_zero, List.set_cons_succ]
      refine wpAnyH_take (i := 20) (oi := { dst := some 31, op := .load 57 (.tmp 30), type := _, pos := _, after := _, guard := none }) (v := .slice a2 n2 c2) rfl (by kernel_rfl) (by kernel_rfl) (by kernel_rfl) (fun _ _ _ h => h) (Or.inl ⟨by rfl, ?_⟩) hS0 ?_
      · intro w hSw
        have z7 := (HE.out w hSw).2.2.2.2.2.2.2.2
        go_simp
      simp only [Act.put, List.setIfInBounds_toArray, List.set_cons_zero, List.set_cons_succ]
      refine wpAnyH_ready (rs := [7]) (by kernel_rfl) (by simp) ?_
      refine AllReadyH.cons (o := { dst := some 18, op := .call { callee := .value (.func 7), args := #[.tmp 17], argTypes := #[34] }, type := _, pos := _, after := _, guard := none }) rfl (fun K hK => ?_) AllReadyH.nil
      rw [if_pos (by rfl)]
      go_wp2_with (go_at_call 7; refine (Q1.out _ hS0).mono ?_; rintro e x1 ⟨⟨y1, rfl⟩, hb1⟩)
      have hS1 := hS0.trans (hb1.mono hS0.size)
      refine hK.out _ _ hS1 (fun _ => ?_)
      refine wpAnyH_take (i := 8) (oi := { dst := some 19, op := .binOp .add 3 (.tmp 12) (.tmp 18) 3, type := _, pos := _, after := _, guard := none }) (v := .int .i64 (IntKind.i64.wrap (IntKind.i64.wrap (z + 1) + y1))) rfl (by kernel_rfl) (by kernel_rfl) (by kernel_rfl) (fun _ _ _ h => h) (Or.inl ⟨by rfl, ?_⟩) hS1 ?_
      · intro w hSw
        go_simp
      simp only [Act.put, List.setIfInBounds_toArray, List.set_cons_zero, List.set_cons_succ]
      refine wpAnyH_ready (rs := [14]) (by kernel_rfl) (by simp) ?_
      refine AllReadyH.cons (o := { dst := some 25, op := .call { callee := .value (.func 64), args := #[.tmp 24], argTypes := #[57] }, type := _, pos := _, after := _, guard := none }) rfl (fun K hK => ?_) AllReadyH.nil
      rw [if_pos (by rfl)]
      go_wp2_with (go_at_call 64; refine (Q2.out _ hS1).mono ?_; rintro e x2 ⟨⟨y2, rfl⟩, hb2⟩)
      have hS2 := hS1.trans (hb2.mono hS1.size)
      refine hK.out _ _ hS2 (fun _ => ?_)
      refine wpAnyH_take (i := 15) (oi := { dst := some 26, op := .binOp .add 3 (.tmp 19) (.tmp 25) 3, type := _, pos := _, after := _, guard := none }) (v := .int .i64 (IntKind.i64.wrap (IntKind.i64.wrap (IntKind.i64.wrap (z + 1) + y1) + y2))) rfl (by kernel_rfl) (by kernel_rfl) (by kernel_rfl) (fun _ _ _ h => h) (Or.inl ⟨by rfl, ?_⟩) hS2 ?_
      · intro w hSw
        go_simp
      simp only [Act.put, List.setIfInBounds_toArray, List.set_cons_zero, List.set_cons_succ]
      refine wpAnyH_ready (rs := [21]) (by kernel_rfl) (by simp) ?_
      refine AllReadyH.cons (o := { dst := some 32, op := .call { callee := .value (.func 64), args := #[.tmp 31], argTypes := #[57] }, type := _, pos := _, after := _, guard := none }) rfl (fun K hK => ?_) AllReadyH.nil
      rw [if_pos (by rfl)]
      go_wp2_with (go_at_call 64; refine (Q3.out _ hS2).mono ?_; rintro e x3 ⟨⟨y3, rfl⟩, hb3⟩)
      have hS3 := hS2.trans (hb3.mono hS2.size)
      refine hK.out _ _ hS3 (fun _ => ?_)
      refine wpAnyH_take (i := 22) (oi := { dst := some 33, op := .binOp .add 3 (.tmp 26) (.tmp 32) 3, type := _, pos := _, after := _, guard := none }) (v := .int .i64 (IntKind.i64.wrap (IntKind.i64.wrap (IntKind.i64.wrap (IntKind.i64.wrap (z + 1) + y1) + y2) + y3))) rfl (by kernel_rfl) (by kernel_rfl) (by kernel_rfl) (fun _ _ _ h => h) (Or.inl ⟨by rfl, ?_⟩) hS3 ?_
      · intro w hSw
        go_simp
      simp only [Act.put, List.setIfInBounds_toArray, List.set_cons_zero, List.set_cons_succ]
      refine wpAnyH_take (i := 23) (oi := { dst := some 3, op := .assign (.tmp 33), type := _, pos := _, after := _, guard := none }) (v := .int .i64 (IntKind.i64.wrap (IntKind.i64.wrap (IntKind.i64.wrap (IntKind.i64.wrap (z + 1) + y1) + y2) + y3))) rfl (by kernel_rfl) (by kernel_rfl) (by kernel_rfl) (fun _ _ _ h => h) (Or.inl ⟨by rfl, ?_⟩) hS3 ?_
      · intro w hSw
        go_simp
      simp only [Act.put, List.setIfInBounds_toArray, List.set_cons_zero, List.set_cons_succ]
      refine wpAnyH_done (by kernel_rfl) ?_ _
      have hw3 : Below w.heap.size w x3 := hbw.trans (hS3.mono hbw.size)
      go_wp2
      go_roundw
      case rel => exact ⟨i + 1, by go_num, by omega, ⟨_, rfl⟩, hw3⟩
      case measure => simp [intOf]; omega
    · go_wp2
      go_ret
      exact ⟨⟨z, rfl⟩, hbw⟩

theorem weightStmts_any (B : Nat) (M : Nat) : ∀ x : ST, SizeOf.sizeOf x < M → WtSW B x := by
  induction M with
  | zero => intro x h; omega
  | succ M ih =>
    rintro ⟨k, nm, e, a1, c1, b1, a2, c2, b2⟩ hN
    exact ⟨weightStmts_of B b1 fun s hs => ih s (by have := ST.sz1 (k := k) (nm := nm) (e := e) (a1 := a1) (a2 := a2) (c1 := c1) (c2 := c2) (els := b2) hs; omega), weightStmts_of B b2 fun s hs => ih s (by have := ST.sz2 (k := k) (nm := nm) (e := e) (a1 := a1) (a2 := a2) (c1 := c1) (c2 := c2) (body := b1) hs; omega)⟩
theorem weightBlock_any (B : Nat) (l : List ST) : WtLW B l := weightStmts_of B l fun s _ => weightStmts_any B _ s (Nat.lt_succ_self _)

set_option maxRecDepth 100000 in
set_option maxHeartbeats 6400000 in
theorem weightProgram_at (B : Nat) (a1_ : Option Addr) (n1_ c1_ : Nat) (a2_ : Option Addr) (n2_ c2_ : Nat) (a3 : Option Addr) (c3 : Nat) (xs : List TT) (w : World) (h1 : RowT B w a3 c3 xs) (hl : n1_ ≤ 1048576) (hl2 : n2_ ≤ 1048576) (hBw : B ≤ w.heap.size) :
    Calls Tryz.prog 27 #[.agg [.slice a1_ n1_ c1_, .slice a2_ n2_ c2_, .slice a3 xs.length c3].toArray] w fun r w' => IsI r ∧ Below w.heap.size w w' := by
  obtain ⟨n, hn⟩ : ∃ n, Hid (n = xs.length) := ⟨_, (rfl : xs.length = _)⟩
  have hl1 := h1.1
  have hk1 := h1.2.1
  rw [← hn.out] at hl1 hk1 ⊢
  have HR : Hid (RowT B w a3 c3 xs) := h1
  clear h1
  go_enter Tryz.func27, Tryz.ntmps27
  go_wp2_with (first
    | ((with_reducible show wpList _ _ _ _ _ _); refine wpList_box_at rfl 26 (.tmp 0) rfl [.slice a1_ n1_ c1_, .slice a2_ n2_ c2_, .slice a3 n c3] rfl ?_; intro w1 hA1 hb1 hs1; clear hs1; refine Hid.out ?_))
  refine hidU ?_
  obtain ⟨q0, q1, q2⟩ := pg_cells hA1
  have HA : Hid (At 26 w1 w.heap.size [.slice a1_ n1_ c1_, .slice a2_ n2_ c2_, .slice a3 n c3]) := hA1
  clear hA1
  go_wp2_with fail
  clear q0 q1 q2
  go_loopw [3, 4] (fun u j wr => ∃ i : Nat, j = .int .i64 (i : Int) ∧ i ≤ n ∧ Hid ((∃ z : Int, u = .int .i64 z) ∧ Below w1.heap.size w1 wr)) (fun u j _ => n - (intOf j).toNat)
  case atStart => exact ⟨0, rfl, by omega, ⟨_, rfl⟩, Below.refl _ _⟩
  case round =>
    obtain ⟨i, rfl, hi, hX⟩ := hrel
    obtain ⟨⟨z, rfl⟩, hbr⟩ := hX.out
    have hwr : Below w.heap.size w wr := hb1.trans (hbr.mono hb1.size)
    obtain ⟨-, -, q2⟩ := pg_cells (HA.out.below hbr)
    by_cases hc : i < n
    · obtain ⟨x, hx⟩ : ∃ k, xs[i]? = some k := ⟨xs[i]'(by rw [← hn.out]; exact hc), by rw [List.getElem?_eq_getElem]⟩
      have hold : Old B w wr := Old.of_below hwr hBw
      obtain ⟨g1, o1, rfl, hg1, hr1, hx1⟩ := (HR.out.old hold).at i x hx
      obtain ⟨nm, a1, c1, ls, a2, c2, bs⟩ := x
      have hsz : B ≤ wr.heap.size := by have := hwr.size; omega
      have k1 : ∀ w', Below wr.heap.size wr w' → Calls Tryz.prog 64 #[.slice a2 bs.length c2] w' fun r w'' => IsI r ∧ Below w'.heap.size w' w'' := fun w' h => weightBlock_any B bs a2 c2 w' (hx1.2.old (Old.of_below h hsz)) (by have := h.size; omega)
      have hls : ls.length ≤ 1048576 := hx1.1.1
      simp only [TT.cells] at hr1
      generalize ls.length = n1 at hr1 hls
      generalize bs.length = n2 at k1 hr1
      have HE : Hid (∀ w', Below wr.heap.size wr w' → w'.cell? ⟨g1, o1 + i * 3 + 1, none⟩ = some (.slice a1 n1 c1) ∧ w'.cell? ⟨g1, o1 + i * 3 + 2, none⟩ = some (.slice a2 n2 c2)) := fun w' h => (th_mid ((Old.of_below (B := B) h hsz).range hg1 hr1)).2
      have HB : Hid (∀ w', Below wr.heap.size wr w' → w'.cell? ⟨w.heap.size, 2, none⟩ = some (.slice (some ⟨g1, o1, none⟩) n c3)) := fun w' h => (pg_cells ((HA.out.below hbr).below h)).2.2
      have Q1 : Hid _ := k1
      have hS0 : Below wr.heap.size wr wr.drew := Below.drew (Below.refl _ _)
      clear hX hx hold hr1 hx1 k1 HR HA
      go_wp2_with fail
      refine wp_region_held_drew (S := fun x => Below wr.heap.size wr x) (by kernel_rfl) hS0 (fun _ => ?_)
      refine wpAnyH_take (i := 0) (oi := { dst := some 19, op := .move (.tmp 3), type := _, pos := _, after := _, guard := none }) (v := .int .i64 z) rfl (by kernel_rfl) (by kernel_rfl) (by kernel_rfl) (fun _ _ _ h => h) (Or.inl ⟨by rfl, ?_⟩) hS0 ?_
      · intro w hSw
        go_simp
      simp only [Act.put, List.setIfInBounds_toArray, List.set_cons_zero, List.set_cons_succ]
      refine wpAnyH_take (i := 1) (oi := { dst := some 20, op := .binOp .add 3 (.tmp 19) (.const (.int .i64 1)) 3, type := _, pos := _, after := _, guard := none }) (v := .int .i64 (IntKind.i64.wrap (z + 1))) rfl (by kernel_rfl) (by kernel_rfl) (by kernel_rfl) (fun _ _ _ h => h) (Or.inl ⟨by rfl, ?_⟩) hS0 ?_
      · intro w hSw
        go_simp
      simp only [Act.put, List.setIfInBounds_toArray, List.set_cons_zero, List.set_cons_succ]
      refine wpAnyH_take (i := 2) (oi := { dst := some 21, op := .fieldAddr 26 (.tmp 1) 2, type := _, pos := _, after := _, guard := none }) (v := .pointer (some ⟨w.heap.size, 2, none⟩)) rfl (by kernel_rfl) (by kernel_rfl) (by kernel_rfl) (fun _ _ _ h => h) (Or.inl ⟨by rfl, ?_⟩) hS0 ?_
      · intro w hSw
        go_simp
      simp only [Act.put, List.setIfInBounds_toArray, List.set_cons_zero, List.set_cons_succ]
      refine wpAnyH_take (i := 3) (oi := { dst := some 22, op := .load 24 (.tmp 21), type := _, pos := _, after := _, guard := none }) (v := .slice (some ⟨g1, o1, none⟩) n c3) rfl (by kernel_rfl) (by kernel_rfl) (by kernel_rfl) (fun _ _ _ h => h) (Or.inl ⟨by rfl, ?_⟩) hS0 ?_
      · intro w hSw
        have z1 := HB.out w hSw
        go_simp
      simp only [Act.put, List.setIfInBounds_toArray, List.set_cons_zero, List.set_cons_succ]
      refine wpAnyH_take (i := 4) (oi := { dst := some 23, op := .move (.tmp 4), type := _, pos := _, after := _, guard := none }) (v := .int .i64 (i : Int)) rfl (by kernel_rfl) (by kernel_rfl) (by kernel_rfl) (fun _ _ _ h => h) (Or.inl ⟨by rfl, ?_⟩) hS0 ?_
      · intro w hSw
        go_simp
      simp only [Act.put, List.setIfInBounds_toArray, List.set_cons_zero, List.set_cons_succ]
      refine wpAnyH_take (i := 5) (oi := { dst := some 24, op := .indexAddr 24 (.tmp 22) (.tmp 23), type := _, pos := _, after := _, guard := none }) (v := .pointer (some ⟨g1, o1 + i * 3, none⟩)) rfl (by kernel_rfl) (by kernel_rfl) (by kernel_rfl) (fun _ _ _ h => h) (Or.inl ⟨by rfl, ?_⟩) hS0 ?_
      · intro w hSw
        go_simp
      simp only [Act.put, List.setIfInBounds_toArray, List.set_cons_zero, List.set_cons_succ]
      refine wpAnyH_take (i := 6) (oi := { dst := some 25, op := .fieldAddr 59 (.tmp 24) 1, type := _, pos := _, after := _, guard := none }) (v := .pointer (some ⟨g1, o1 + i * 3 + 1, none⟩)) rfl (by kernel_rfl) (by kernel_rfl) (by kernel_rfl) (fun _ _ _ h => h) (Or.inl ⟨by rfl, ?_⟩) hS0 ?_
      · intro w hSw
        go_simp
      simp only [Act.put, List.setIfInBounds_toArray, List.set_cons_zero, List.set_cons_succ]
      refine wpAnyH_take (i := 7) (oi := { dst := some 26, op := .load 22 (.tmp 25), type := _, pos := _, after := _, guard := none }) (v := .slice a1 n1 c1) rfl (by kernel_rfl) (by kernel_rfl) (by kernel_rfl) (fun _ _ _ h => h) (Or.inl ⟨by rfl, ?_⟩) hS0 ?_
      · intro w hSw
        have z1 := (HE.out w hSw).1
        go_simp
      simp only [Act.put, List.setIfInBounds_toArray, List.set_cons_zero, List.set_cons_succ]
      refine wpAnyH_take (i := 8) (oi := { dst := some 27, op := .call { callee := .builtin .len, args := #[.tmp 26], argTypes := #[22] }, type := _, pos := _, after := _, guard := none }) (v := .int .i64 (n1 : Int)) rfl (by kernel_rfl) (by kernel_rfl) (by kernel_rfl) (fun _ _ _ h => h) (Or.inl ⟨by rfl, ?_⟩) hS0 ?_
      · intro w hSw
        go_simp
      simp only [Act.put, List.setIfInBounds_toArray, List.set_cons_zero, List.set_cons_succ]
      refine wpAnyH_take (i := 9) (oi := { dst := some 28, op := .binOp .add 3 (.tmp 20) (.tmp 27) 3, type := _, pos := _, after := _, guard := none }) (v := .int .i64 (IntKind.i64.wrap (IntKind.i64.wrap (z + 1) + (n1 : Int)))) rfl (by kernel_rfl) (by kernel_rfl) (by kernel_rfl) (fun _ _ _ h => h) (Or.inl ⟨by rfl, ?_⟩) hS0 ?_
      · intro w hSw
        go_simp
      simp only [Act.put, List.setIfInBounds_toArray, List.set_cons_zero, List.set_cons_succ]
      refine wpAnyH_take (i := 10) (oi := { dst := some 29, op := .fieldAddr 26 (.tmp 1) 2, type := _, pos := _, after := _, guard := none }) (v := .pointer (some ⟨w.heap.size, 2, none⟩)) rfl (by kernel_rfl) (by kernel_rfl) (by kernel_rfl) (fun _ _ _ h => h) (Or.inl ⟨by rfl, ?_⟩) hS0 ?_
      · intro w hSw
        go_simp
      simp only [Act.put, List.setIfInBounds_toArray, List.set_cons_zero, List.set_cons_succ]
      refine wpAnyH_take (i := 11) (oi := { dst := some 30, op := .load 24 (.tmp 29), type := _, pos := _, after := _, guard := none }) (v := .slice (some ⟨g1, o1, none⟩) n c3) rfl (by kernel_rfl) (by kernel_rfl) (by kernel_rfl) (fun _ _ _ h => h) (Or.inl ⟨by rfl, ?_⟩) hS0 ?_
      · intro w hSw
        have z1 := HB.out w hSw
        go_simp
      simp only [Act.put, List.setIfInBounds_toArray, List.set_cons_zero, List.set_cons_succ]
      refine wpAnyH_take (i := 12) (oi := { dst := some 31, op := .move (.tmp 4), type := _, pos := _, after := _, guard := none }) (v := .int .i64 (i : Int)) rfl (by kernel_rfl) (by kernel_rfl) (by kernel_rfl) (fun _ _ _ h => h) (Or.inl ⟨by rfl, ?_⟩) hS0 ?_
      · intro w hSw
        go_simp
      simp only [Act.put, List.setIfInBounds_toArray, List.set_cons_zero, List.set_cons_succ]
      refine wpAnyH_take (i := 13) (oi := { dst := some 32, op := .indexAddr 24 (.tmp 30) (.tmp 31), type := _, pos := _, after := _, guard := none }) (v := .pointer (some ⟨g1, o1 + i * 3, none⟩)) rfl (by kernel_rfl) (by kernel_rfl) (by kernel_rfl) (fun _ _ _ h => h) (Or.inl ⟨by rfl, ?_⟩) hS0 ?_
      · intro w hSw
        go_simp
      simp only [Act.put, List.setIfInBounds_toArray, List.set_cons_zero, List.set_cons_succ]
      refine wpAnyH_take (i := 14) (oi := { dst := some 33, op := .fieldAddr 59 (.tmp 32) 2, type := _, pos := _, after := _, guard := none }) (v := .pointer (some ⟨g1, o1 + i * 3 + 2, none⟩)) rfl (by kernel_rfl) (by kernel_rfl) (by kernel_rfl) (fun _ _ _ h => h) (Or.inl ⟨by rfl, ?_⟩) hS0 ?_
      · intro w hSw
        go_simp
      simp only [Act.put, List.setIfInBounds_toArray, List.set_cons_zero, List.set_cons_succ]
      refine wpAnyH_take (i := 15) (oi := { dst := some 34, op := .load 57 (.tmp 33), type := _, pos := _, after := _, guard := none }) (v := .slice a2 n2 c2) rfl (by kernel_rfl) (by kernel_rfl) (by kernel_rfl) (fun _ _ _ h => h) (Or.inl ⟨by rfl, ?_⟩) hS0 ?_
      · intro w hSw
        have z1 := (HE.out w hSw).2
        go_simp
      simp only [Act.put, List.setIfInBounds_toArray, List.set_cons_zero, List.set_cons_succ]
      refine wpAnyH_ready (rs := [16]) (by kernel_rfl) (by simp) ?_
      refine AllReadyH.cons (o := { dst := some 35, op := .call { callee := .value (.func 64), args := #[.tmp 34], argTypes := #[57] }, type := _, pos := _, after := _, guard := none }) rfl (fun K hK => ?_) AllReadyH.nil
      rw [if_pos (by rfl)]
      go_wp2_with (go_at_call 64; refine (Q1.out _ hS0).mono ?_; rintro e x1 ⟨⟨y1, rfl⟩, hb1⟩)
      have hS1 := hS0.trans (hb1.mono hS0.size)
      refine hK.out _ _ hS1 (fun _ => ?_)
      refine wpAnyH_take (i := 17) (oi := { dst := some 36, op := .binOp .add 3 (.tmp 28) (.tmp 35) 3, type := _, pos := _, after := _, guard := none }) (v := .int .i64 (IntKind.i64.wrap (IntKind.i64.wrap (IntKind.i64.wrap (z + 1) + (n1 : Int)) + y1))) rfl (by kernel_rfl) (by kernel_rfl) (by kernel_rfl) (fun _ _ _ h => h) (Or.inl ⟨by rfl, ?_⟩) hS1 ?_
      · intro w hSw
        go_simp
      simp only [Act.put, List.setIfInBounds_toArray, List.set_cons_zero, List.set_cons_succ]
      refine wpAnyH_take (i := 18) (oi := { dst := some 3, op := .assign (.tmp 36), type := _, pos := _, after := _, guard := none }) (v := .int .i64 (IntKind.i64.wrap (IntKind.i64.wrap (IntKind.i64.wrap (z + 1) + (n1 : Int)) + y1))) rfl (by kernel_rfl) (by kernel_rfl) (by kernel_rfl) (fun _ _ _ h => h) (Or.inl ⟨by rfl, ?_⟩) hS1 ?_
      · intro w hSw
        go_simp
      simp only [Act.put, List.setIfInBounds_toArray, List.set_cons_zero, List.set_cons_succ]
      refine wpAnyH_done (by kernel_rfl) ?_ _
      have hw3 : Below w1.heap.size w1 x1 := hbr.trans (hS1.mono hbr.size)
      go_wp2
      go_roundw
      case rel => exact ⟨i + 1, by go_num, by omega, ⟨_, rfl⟩, hw3⟩
      case measure => simp [intOf]; omega
    · go_wp2
      go_ret
      exact ⟨⟨z, rfl⟩, hwr⟩

theorem weightProgram_any (B : Nat) (p : PT) (w : World) (h : p.In B w) (hBw : B ≤ w.heap.size) : Calls Tryz.prog 27 #[.agg p.cells.toArray] w fun r w' => IsI r ∧ Below w.heap.size w w' :=
  weightProgram_at B p.a1 p.shared.length p.c1 p.a2 p.mutexes.length p.c2 p.a3 p.c3 p.threads w h.2.2 h.1.1 h.2.1.1 hBw

end Go.Proofs.YtcmahiphfpgadaaGreatDoor

/- Whether a program is large is told. -/
namespace Go.Proofs.YtcmahiphfpgadaaGreatDoor
open Go.RowKit
set_option linter.unusedVariables false

def IsB (r : Ending) : Prop := ∃ b : Bool, r = .returned (.bool b)

theorem vr_mid {w : World} {g o : Nat} {v : VT} (h : w.rangeAt g o v.cells) : w.cell? ⟨g, o, none⟩ = some (.string v.nm) := by
  have := h 0 _ rfl
  simpa using this

set_option maxRecDepth 100000 in
set_option maxHeartbeats 6400000 in
theorem large_any (B : Nat) (p : PT) (w : World) (h : p.In B w) (hBw : B ≤ w.heap.size) : Calls Tryz.prog 6 #[.agg p.cells.toArray] w fun r w' => IsB r ∧ Below w.heap.size w w' := by
  have hWt := fun w' h' hB' => weightProgram_any B p w' h' hB'
  obtain ⟨a1, c1, vs, a2, c2, ms, a3, c3, ts⟩ := p
  obtain ⟨hr1, hr2, hr3⟩ := h
  obtain ⟨n1, hn1⟩ : ∃ n, Hid (n = vs.length) := ⟨_, (rfl : vs.length = _)⟩
  obtain ⟨n2, hn2⟩ : ∃ n, Hid (n = ms.length) := ⟨_, (rfl : ms.length = _)⟩
  obtain ⟨n3, hn3⟩ : ∃ n, Hid (n = ts.length) := ⟨_, (rfl : ts.length = _)⟩
  have hl1 := hr1.1
  have hk1 := hr1.2.1
  have hl2 := hr2.1
  have hk2 := hr2.2.1
  have hl3 := hr3.1
  have hk3 := hr3.2.1
  have HR : Hid (RowV B w a1 c1 vs ∧ RowN B w a2 c2 ms ∧ RowT B w a3 c3 ts) := ⟨hr1, hr2, hr3⟩
  have HW : Hid (∀ w', Below w.heap.size w w' → Calls Tryz.prog 27 #[.agg [.slice a1 n1 c1, .slice a2 n2 c2, .slice a3 n3 c3].toArray] w' fun r w'' => IsI r ∧ Below w'.heap.size w' w'') := fun w' hb => by
    rw [hn1.out, hn2.out, hn3.out]
    exact hWt w' ⟨hr1.old (Old.of_below hb hBw), hr2.old (Old.of_below hb hBw), hr3.old (Old.of_below hb hBw)⟩ (by have := hb.size; omega)
  rw [← hn1.out] at hl1 hk1
  rw [← hn2.out] at hl2 hk2
  rw [← hn3.out] at hl3 hk3
  simp only [PT.cells]
  rw [← hn1.out, ← hn2.out, ← hn3.out]
  clear hr1 hr2 hr3 hWt
  go_enter Tryz.func6, Tryz.ntmps6
  go_wp2_with (first
    | ((with_reducible show wpList _ _ _ _ _ _); refine wpList_box_at rfl 26 (.tmp 0) rfl [.slice a1 n1 c1, .slice a2 n2 c2, .slice a3 n3 c3] rfl ?_; intro w1 hA1 hb1 hs1; clear hs1; refine Hid.out ?_))
  refine hidU ?_
  have HA : Hid (At 26 w1 w.heap.size [.slice a1 n1 c1, .slice a2 n2 c2, .slice a3 n3 c3]) := hA1
  clear hA1
  go_wp2_with fail
  go_loopw [3, 4] (fun u j wr => ∃ i : Nat, j = .int .i64 (i : Int) ∧ i ≤ n2 ∧ Hid ((∃ z : Int, u = .int .i64 z) ∧ Below w1.heap.size w1 wr)) (fun u j _ => n2 - (intOf j).toNat)
  case atStart => exact ⟨0, rfl, by omega, ⟨0, rfl⟩, Below.refl _ _⟩
  case round =>
    obtain ⟨i, rfl, hi, hX⟩ := hrel
    obtain ⟨⟨z, rfl⟩, hbr⟩ := hX.out
    have hwr : Below w.heap.size w wr := hb1.trans (hbr.mono hb1.size)
    obtain ⟨q0, q1, q2⟩ := pg_cells (HA.out.below hbr)
    by_cases hc : i < n2
    · obtain ⟨x, hx⟩ : ∃ k, ms[i]? = some k := ⟨ms[i]'(by rw [← hn2.out]; exact hc), by rw [List.getElem?_eq_getElem]⟩
      obtain ⟨g1, o1, rfl, hg1, hr1⟩ := (HR.out.2.1.old (Old.of_below hwr hBw)).at i x hx
      clear hX hx
      go_wp2
      go_roundw
      case rel => exact ⟨i + 1, by go_num, by omega, ⟨_, rfl⟩, hbr⟩
      case measure => simp [intOf]; omega
    · clear hX
      go_wp2_with fail
      go_loopw [3, 5] (fun u j wr => ∃ i : Nat, j = .int .i64 (i : Int) ∧ i ≤ n1 ∧ Hid ((∃ z : Int, u = .int .i64 z) ∧ Below w1.heap.size w1 wr)) (fun u j _ => n1 - (intOf j).toNat)
      case atStart => exact ⟨0, rfl, by omega, ⟨_, rfl⟩, hbr⟩
      case round =>
        clear q0 q1 q2 hbr hwr
        obtain ⟨i, rfl, hi, hX⟩ := hrel
        obtain ⟨⟨z, rfl⟩, hbr⟩ := hX.out
        have hwr : Below w.heap.size w wr := hb1.trans (hbr.mono hb1.size)
        obtain ⟨q0, q1, q2⟩ := pg_cells (HA.out.below hbr)
        by_cases hc : i < n1
        · obtain ⟨x, hx⟩ : ∃ k, vs[i]? = some k := ⟨vs[i]'(by rw [← hn1.out]; exact hc), by rw [List.getElem?_eq_getElem]⟩
          obtain ⟨g1, o1, rfl, hg1, hr1, -⟩ := (HR.out.1.old (Old.of_below hwr hBw)).at i x hx
          have hv := vr_mid hr1
          clear hX hx hr1
          go_wp2
          go_roundw
          case rel => exact ⟨i + 1, by go_num, by omega, ⟨_, rfl⟩, hbr⟩
          case measure => simp [intOf]; omega
        · clear hX
          by_cases hbig : 40 < n3 ∨ 40 < n1 ∨ 40 < n2
          · have hbig' : ¬ (¬ 40 < n3 ∧ ¬ 40 < n1 ∧ ¬ 40 < n2) := by omega
            go_wp2_with fail
            all_goals first
              | (go_ret; exact ⟨⟨true, rfl⟩, hwr⟩)
              | (exfalso; omega)
          · have h1' : ¬ 40 < n3 := by omega
            have h2' : ¬ 40 < n1 := by omega
            have h3' : ¬ 40 < n2 := by omega
            go_wp2_with fail
            go_loopw [3, 6] (fun u j wr => ∃ i : Nat, j = .int .i64 (i : Int) ∧ i ≤ n3 ∧ Hid ((∃ z : Int, u = .int .i64 z) ∧ Below w1.heap.size w1 wr)) (fun u j _ => n3 - (intOf j).toNat)
            case atStart => exact ⟨0, rfl, by omega, ⟨_, rfl⟩, hbr⟩
            case round =>
              clear q0 q1 q2 hbr hwr
              obtain ⟨i, rfl, hi, hX⟩ := hrel
              obtain ⟨⟨z, rfl⟩, hbr⟩ := hX.out
              have hwr : Below w.heap.size w wr := hb1.trans (hbr.mono hb1.size)
              obtain ⟨q0, q1, q2⟩ := pg_cells (HA.out.below hbr)
              by_cases hc : i < n3
              · obtain ⟨x, hx⟩ : ∃ k, ts[i]? = some k := ⟨ts[i]'(by rw [← hn3.out]; exact hc), by rw [List.getElem?_eq_getElem]⟩
                obtain ⟨g1, o1, rfl, hg1, hr1, hin1⟩ := (HR.out.2.2.old (Old.of_below hwr hBw)).at i x hx
                obtain ⟨nm, b1, d1, ls, b2, d2, bs⟩ := x
                obtain ⟨m, hm⟩ : ∃ n, Hid (n = ls.length) := ⟨_, (rfl : ls.length = _)⟩
                obtain ⟨m2, hm2⟩ : ∃ n, Hid (n = bs.length) := ⟨_, (rfl : bs.length = _)⟩
                have hml := hin1.1.1
                have hmk := hin1.1.2.1
                have HV : Hid (RowV B wr b1 d1 ls) := hin1.1
                have hszr : B ≤ wr.heap.size := by have := hwr.size; omega
                simp only [TT.cells] at hr1
                rw [← hm.out, ← hm2.out] at hr1
                have hml : m ≤ 1048576 := by rw [hm.out]; exact hml
                have hmk : m ≤ d1 := by rw [hm.out]; exact hmk
                clear hX hx hin1
                go_wp2_with (first
                  | ((with_reducible show wpList _ _ _ _ _ _); refine wpList_load_mid (P := Tryz.prog) rfl 59 (.tmp 66) rfl g1 (o1 + i * 3) (by first | rfl | (simp; done)) [.string nm, .slice b1 m d1, .slice b2 m2 d2] _ hr1 Tryz.underlying59 rfl i42 ?_)
                  | ((with_reducible show wpList _ _ _ _ _ _); refine wpList_alloc_at rfl 59 rfl _ 3 z42 ?_; intro w2 hA2 hb2 hs2)
                  | ((with_reducible show wpList _ _ _ _ _ _); refine wpList_store_at (P := Tryz.prog) rfl 59 (.tmp 7) (.tmp 67) rfl wr.heap.size [.string nm, .slice b1 m d1, .slice b2 m2 d2] rfl rfl 59 _ hA2 i42 rfl (one59 _ _ _ _ _ _ _) ?_; intro w3 hA3 hb3 hs3; refine Hid.out ?_))
                refine hidU ?_
                have hB3 : Below wr.heap.size wr w3 := hb3.below hb2 (Nat.le_refl _) (by omega)
                have hw13 : Below w1.heap.size w1 w3 := hbr.trans (hB3.mono hbr.size)
                have hlt3 : wr.heap.size < w3.heap.size := hA3.lt
                have HT : Hid (At 59 w3 wr.heap.size [.string nm, .slice b1 m d1, .slice b2 m2 d2] ∧ Below wr.heap.size wr w3) := ⟨hA3, hB3⟩
                obtain ⟨u0, u1, u2⟩ := th_cells hA3
                clear hb3 hb2 hA2 hr1 hs2 hs3 hA3 hB3 q0 q1 q2
                by_cases hmb : 40 < m
                · go_wp2_with fail
                  all_goals first
                    | (go_ret; exact ⟨⟨true, rfl⟩, hb1.trans (hw13.mono hb1.size)⟩)
                    | (exfalso; omega)
                · go_wp2_with fail
                  go_loopw [3, 8] (fun u j wq => ∃ q : Nat, j = .int .i64 (q : Int) ∧ q ≤ m ∧ Hid ((∃ z : Int, u = .int .i64 z) ∧ Below w3.heap.size w3 wq)) (fun u j _ => m - (intOf j).toNat)
                  case atStart => exact ⟨0, rfl, by omega, ⟨_, rfl⟩, Below.refl _ _⟩
                  case round =>
                    clear u0 u1 u2
                    obtain ⟨q, rfl, hq, hX⟩ := hrel
                    obtain ⟨⟨z', rfl⟩, hbq⟩ := hX.out
                    obtain ⟨u0, u1, u2⟩ := th_cells (HT.out.1.below hbq)
                    by_cases hcq : q < m
                    · obtain ⟨x, hx⟩ : ∃ k, ls[q]? = some k := ⟨ls[q]'(by rw [← hm.out]; exact hcq), by rw [List.getElem?_eq_getElem]⟩
                      obtain ⟨g2, o2, rfl, hg2, hr2, -⟩ := (HV.out.old (Old.of_below (HT.out.2.trans (hbq.mono HT.out.2.size)) hszr)).at q x hx
                      have hv := vr_mid hr2
                      clear hX hx hr2
                      go_wp2
                      go_roundw
                      case rel => exact ⟨q + 1, by go_num, by omega, ⟨_, rfl⟩, hbq⟩
                      case measure => simp [intOf]; omega
                    · clear hX
                      have hw1q : Below w1.heap.size w1 wr := hw13.trans (hbq.mono hw13.size)
                      clear HT HV
                      go_wp2
                      go_roundw
                      case rel => exact ⟨i + 1, by go_num, by omega, ⟨_, rfl⟩, hw1q⟩
                      case measure => simp [intOf]; omega
              · have hW := HW.out wr hwr
                clear hX
                by_cases hz : 4000 < z
                · go_wp2_with fail
                  go_ret
                  exact ⟨⟨_, rfl⟩, hwr⟩
                · go_wp2_with fail
                  refine hW.mono ?_
                  rintro r w5 ⟨⟨y, rfl⟩, hb5⟩
                  go_wp2_with fail
                  all_goals
                    (go_ret
                     exact ⟨⟨_, rfl⟩, hwr.trans (hb5.mono hwr.size)⟩)
end Go.Proofs.YtcmahiphfpgadaaGreatDoor

/- The document's own writing over of a program. -/
namespace Go.Proofs.YtcmahiphfpgadaaGreatDoor
open Go.RowKit
set_option linter.unusedVariables false

theorem sum_take_succ {α : Type} (f : α → Nat) : ∀ (l : List α) (i : Nat) (x : α), l[i]? = some x → ((l.take (i + 1)).map f).sum = ((l.take i).map f).sum + f x
  | [], i, x, h => by simp at h
  | e :: r, 0, x, h => by
    simp at h
    subst h
    simp
  | e :: r, i + 1, x, h => by
    have := sum_take_succ f r i x (by simpa using h)
    simp only [List.take_succ_cons, List.map_cons, List.sum_cons]
    omega
theorem sum_take_le {α : Type} (f : α → Nat) : ∀ (l : List α) (i : Nat), ((l.take i).map f).sum ≤ (l.map f).sum
  | [], i => by simp
  | e :: r, 0 => by simp
  | e :: r, i + 1 => by
    have := sum_take_le f r i
    simp only [List.take_succ_cons, List.map_cons, List.sum_cons]
    omega
theorem len_le_sum {α : Type} (f : α → Nat) (h : ∀ x, 1 ≤ f x) : ∀ (l : List α), l.length ≤ (l.map f).sum
  | [] => by simp
  | e :: r => by
    have := len_le_sum f h r
    have := h e
    simp only [List.map_cons, List.sum_cons, List.length_cons]
    omega

set_option maxRecDepth 100000 in
set_option maxHeartbeats 6400000 in
theorem overProgram_at (A B : Nat) (vs : List VT) (a1 : Option Addr) (c1 : Nat) (ms : List ByteArray) (a2 : Option Addr) (ts : List TT) (a3 : Option Addr) (c3 : Nat) (w : World) (i1 : RowV B w a1 c1 vs) (i2 : RowN B w a2 ms.length ms) (i3 : RowT B w a3 c3 ts)
    (k1 : vs = [] ∨ ∃ g o, a1 = some ⟨g, o, none⟩ ∧ Fr A w g) (k2 : ms = [] ∨ ∃ g o, a2 = some ⟨g, o, none⟩ ∧ Fr A w g) (k3 : ts = [] ∨ ∃ g o, a3 = some ⟨g, o, none⟩ ∧ Fr A w g) (k4 : TT.LiesL (Fr A w) ts)
    (hBw : B ≤ w.heap.size) (hAw : A ≤ w.heap.size) (hm : ∀ s ∈ ms, s.size ≤ 1048576) (hW : ((ts.map TT.th).map thW).sum ≤ 1048576) :
    Calls Tryz.prog 25 #[.agg [.slice a1 vs.length c1, .slice a2 ms.length ms.length, .slice a3 ts.length c3].toArray] w fun r w' => r = .returned (.tuple #[]) ∧ Below A w w' := by
  obtain ⟨n1, hn1⟩ : ∃ n, Hid (n = vs.length) := ⟨_, (rfl : vs.length = _)⟩
  obtain ⟨n2, hn2⟩ : ∃ n, Hid (n = ms.length) := ⟨_, (rfl : ms.length = _)⟩
  obtain ⟨n3, hn3⟩ : ∃ n, Hid (n = ts.length) := ⟨_, (rfl : ts.length = _)⟩
  have l1 := i1.1
  have l1' := i1.2.1
  have l2 := i2.1
  have l3 := i3.1
  have l3' := i3.2.1
  rw [← hn1.out] at l1 l1'
  rw [← hn2.out] at l2
  rw [← hn3.out] at l3 l3'
  rw [← hn1.out, ← hn2.out, ← hn3.out]
  have HI : Hid (RowV B w a1 c1 vs ∧ RowN B w a2 ms.length ms ∧ RowT B w a3 c3 ts) := ⟨i1, i2, i3⟩
  have HK : Hid ((vs = [] ∨ ∃ g o, a1 = some ⟨g, o, none⟩ ∧ Fr A w g) ∧ (ms = [] ∨ ∃ g o, a2 = some ⟨g, o, none⟩ ∧ Fr A w g) ∧ (ts = [] ∨ ∃ g o, a3 = some ⟨g, o, none⟩ ∧ Fr A w g) ∧ TT.LiesL (Fr A w) ts) := ⟨k1, k2, k3, k4⟩
  have HM : Hid (∀ s ∈ ms, s.size ≤ 1048576) := hm
  have HW : Hid (((ts.map TT.th).map thW).sum ≤ 1048576) := hW
  clear i1 i2 i3 k1 k2 k3 k4 hm hW
  go_enter Tryz.func25, Tryz.ntmps25
  go_wp2_with (first
    | ((with_reducible show wpList _ _ _ _ _ _); refine wpList_box_at rfl 26 (.tmp 0) rfl [.slice a1 n1 c1, .slice a2 n2 n2, .slice a3 n3 c3] rfl ?_; intro w1 hA1 hb1 hs1; clear hs1; refine Hid.out ?_))
  refine hidU ?_
  have hMid : Mid A B w w1 := fun k _ h2 => hb1.block k (by omega)
  have HU : Hid (((vs = [] ∨ ∃ g o, a1 = some ⟨g, o, none⟩ ∧ Fr A w1 g) ∧ RowV B w1 a1 c1 vs) ∧ ((ms = [] ∨ ∃ g o, a2 = some ⟨g, o, none⟩ ∧ Fr A w1 g) ∧ RowN B w1 a2 ms.length ms) ∧ (ts = [] ∨ ∃ g o, a3 = some ⟨g, o, none⟩ ∧ Fr A w1 g) ∧ TT.LiesL (Fr A w1) ts ∧ RowT B w1 a3 c3 ts) :=
    ⟨RowV.keepF hMid HI.out.1 HK.out.1, RowN.keepF hMid HI.out.2.1 HK.out.2.1, RowT.keepF hMid HI.out.2.2 HK.out.2.2.1 HK.out.2.2.2⟩
  have HX : Hid (Fr A w1 w.heap.size) := ⟨hAw, _, _, hA1⟩
  have HC : Hid (w1.cell? ⟨w.heap.size, 0, none⟩ = some (.slice a1 n1 c1) ∧ w1.cell? ⟨w.heap.size, 1, none⟩ = some (.slice a2 n2 n2) ∧ w1.cell? ⟨w.heap.size, 2, none⟩ = some (.slice a3 n3 c3)) := pg_cells hA1
  have HB : Hid (Below A w w1) := hb1.mono hAw
  clear hA1 hb1 hMid HI HK
  go_wp2_with fail
  go_loopw [2] (fun j wr => ∃ i : Nat, j = .int .i64 (i : Int) ∧ i ≤ n1 ∧ Hid (Ov A (4 * i) w1 wr)) (fun j _ => n1 - (intOf j).toNat)
  case atStart => exact ⟨0, rfl, Nat.zero_le _, Ov.refl _ _⟩
  case round =>
    obtain ⟨i, rfl, hi, hv⟩ := hrel
    have r0 := hv.out.slice HX.out HC.out.1
    by_cases hc : i < n1
    · obtain ⟨x, hx⟩ : ∃ k, vs[i]? = some k := ⟨vs[i]'(by rw [← hn1.out]; exact hc), by rw [List.getElem?_eq_getElem]⟩
      obtain ⟨g1, o1, rfl, -, hr1, -⟩ := HU.out.1.2.at i x hx
      have hm := List.mem_of_getElem? hx
      have hg1 : Fr A w1 g1 := by
        rcases HU.out.1.1 with q | ⟨g', o', e', q⟩
        · rw [q] at hm; cases hm
        · cases e'; exact q
      have hz := vr_mid hr1
      obtain ⟨s, r1, hs⟩ := hv.out.str hg1 hz
      have f1 := hv.out.frozen hg1 (o1 + i * 3)
      have HZ : Hid (w1.cell? ⟨g1, o1 + i * 3, none⟩ = some (.string x.nm) ∧ Fr A w1 g1) := ⟨hz, hg1⟩
      clear hx hm hr1 hz hg1 HU HM HW
      go_wp2_with (first
        | ((with_reducible show wpList _ _ _ _ _ _); refine wpList_store_str rfl (.tmp 16) (.const (.string ⟨#[111, 118, 101, 114]⟩)) rfl g1 (o1 + i * 3) ⟨#[111, 118, 101, 114]⟩ (by first | rfl | (simp; done)) rfl _ r1 f1 ?_; refine Hid.out ?_))
      refine hidU ?_
      generalize hw4 : wr.setCell ⟨g1, o1 + i * 3, none⟩ _ = w4
      have HV4 : Hid (Ov A (4 * (i + 1)) w1 w4) := by
        rw [← hw4]
        refine (hv.out.mono (L := 4 * (i + 1)) (by omega)).set HZ.out.2 HZ.out.1 (.inr (.inr ⟨_, _, rfl, rfl, ?_⟩))
        have e1 : (⟨#[111, 118, 101, 114]⟩ : ByteArray).size = 4 := rfl
        omega
      clear hw4 hv r0 r1 f1
      go_wp2_with fail
      go_roundw
      case rel => exact ⟨i + 1, by go_num, by omega, HV4⟩
      case measure => simp [intOf]; omega
    · have hin : i = n1 := by omega
      subst hin
      have r1 := hv.out.slice HX.out HC.out.2.1
      have hC := overTexts_any A B w1 ms a2 (4 * i) wr HU.out.2.1.2 HU.out.2.1.1 hv.out HM.out (by omega)
      rw [← hn2.out] at hC
      clear HM
      go_wp2_with (go_at_call 62; refine hC.mono ?_; rintro e w2 ⟨rfl, hv2⟩; refine Hid.out ?_)
      refine hidU ?_
      have HV2 : Hid (Ov A (4 * i + n2) w1 w2) := hv2
      obtain ⟨K2, hK2⟩ : ∃ K2, K2 = 4 * i + n2 := ⟨_, rfl⟩
      rw [← hK2] at HV2
      have hK2' : K2 ≤ 5242880 := by omega
      clear hC r0 r1 hv hv2 hK2
      go_wp2_with fail
      go_loopw [3] (fun j wr => ∃ i : Nat, j = .int .i64 (i : Int) ∧ i ≤ n3 ∧ Hid (Ov A (K2 + 4 * (((ts.map TT.th).take i).map thW).sum) w1 wr)) (fun j _ => n3 - (intOf j).toNat)
      case atStart => exact ⟨0, rfl, Nat.zero_le _, HV2.out⟩
      case round =>
        clear HV2
        obtain ⟨i3, rfl, hi3, hv⟩ := hrel
        have r2 := hv.out.slice HX.out HC.out.2.2
        by_cases hc3 : i3 < n3
        · obtain ⟨x, hx⟩ : ∃ k, ts[i3]? = some k := ⟨ts[i3]'(by rw [← hn3.out]; exact hc3), by rw [List.getElem?_eq_getElem]⟩
          obtain ⟨g3, o3, rfl, -, hr3, hx3⟩ := HU.out.2.2.2.2.at i3 x hx
          have hm := List.mem_of_getElem? hx
          have hg3 : Fr A w1 g3 := by
            rcases HU.out.2.2.1 with q | ⟨g', o', e', q⟩
            · rw [q] at hm; cases hm
            · cases e'; exact q
          have hl3 := HU.out.2.2.2.1 x hm
          have e3 := sum_take_succ thW (ts.map TT.th) i3 x.th (by rw [List.getElem?_map, hx]; rfl)
          have e4 := sum_take_le thW (ts.map TT.th) (i3 + 1)
          obtain ⟨nm, b1, d1, ls, b2, d2, bs⟩ := x
          obtain ⟨m, hm1⟩ : ∃ n, Hid (n = ls.length) := ⟨_, (rfl : ls.length = _)⟩
          obtain ⟨W, hWb⟩ : ∃ W, W = stWs (bs.map ST.st) := ⟨_, rfl⟩
          obtain ⟨K3, hK3⟩ : ∃ K3, K3 = K2 + 4 * (((ts.map TT.th).take i3).map thW).sum := ⟨_, rfl⟩
          have e5 : thW (TT.th ⟨nm, b1, d1, ls, b2, d2, bs⟩) = nm.data.toList.length + 1 + ((ls.map VT.vr).map vrW).sum + stWs (bs.map ST.st) := rfl
          have e6 := len_le_sum vrW (fun v => by unfold vrW; omega) (ls.map VT.vr)
          rw [List.length_map, ← hm1.out] at e6
          have HE : Hid (K3 + W + 4 * m + 4 ≤ K2 + 4 * (((ts.map TT.th).take (i3 + 1)).map thW).sum ∧ K3 + W + 4 * m + 4 ≤ 281474976710656) := by
            have := HW.out
            exact ⟨by omega, by omega⟩
          rw [← hK3] at hv
          have hml := hx3.1.1
          have hmk := hx3.1.2.1
          rw [← hm1.out] at hml hmk
          simp only [TT.cells] at hr3
          rw [← hm1.out] at hr3
          obtain ⟨q0, q1, q2⟩ := th_mid hr3
          have rb := hv.out.slice hg3 q2
          have hC := overStmts_any A B w1 _ bs (Nat.lt_succ_self _) b2 d2 K3 wr hx3.2 hl3.2.1 hl3.2.2 hv.out (by have := HE.out; omega)
          rw [← hWb] at hC
          have HQ : Hid (w1.cell? ⟨g3, o3 + i3 * 3, none⟩ = some (.string nm) ∧ w1.cell? ⟨g3, o3 + i3 * 3 + 1, none⟩ = some (.slice b1 m d1) ∧ Fr A w1 g3) := ⟨q0, q1, hg3⟩
          have HD : Hid ((ls = [] ∨ ∃ g o, b1 = some ⟨g, o, none⟩ ∧ Fr A w1 g) ∧ RowV B w1 b1 d1 ls) := ⟨hl3.1, hx3.1⟩
          clear hx hm hr3 hx3 hl3 e3 e4 e5 e6 hWb hK3 q0 q1 q2 hg3
          go_wp2_with (go_at_call 63; refine hC.mono ?_; rintro e w3 ⟨rfl, hv3⟩; refine Hid.out ?_)
          refine hidU ?_
          have HV3 : Hid (Ov A (K3 + W) w1 w3) := hv3
          clear hC rb r2 hv hv3
          go_wp2_with fail
          go_loopw [4] (fun j wq => ∃ q : Nat, j = .int .i64 (q : Int) ∧ q ≤ m ∧ Hid (Ov A (K3 + W + 4 * q) w1 wq)) (fun j _ => m - (intOf j).toNat)
          case atStart => exact ⟨0, rfl, Nat.zero_le _, HV3.out⟩
          case round =>
            clear HV3
            obtain ⟨q, rfl, hq, hv⟩ := hrel
            have r2 := hv.out.slice HX.out HC.out.2.2
            have rl := hv.out.slice HQ.out.2.2 HQ.out.2.1
            by_cases hcq : q < m
            · obtain ⟨x, hx⟩ : ∃ k, ls[q]? = some k := ⟨ls[q]'(by rw [← hm1.out]; exact hcq), by rw [List.getElem?_eq_getElem]⟩
              obtain ⟨g4, o4, rfl, -, hr4, -⟩ := HD.out.2.at q x hx
              have hm := List.mem_of_getElem? hx
              have hg4 : Fr A w1 g4 := by
                rcases HD.out.1 with q | ⟨g', o', e', q⟩
                · rw [q] at hm; cases hm
                · cases e'; exact q
              have hz := vr_mid hr4
              obtain ⟨s, r1, hs⟩ := hv.out.str hg4 hz
              have f1 := hv.out.frozen hg4 (o4 + q * 3)
              have HZ : Hid (w1.cell? ⟨g4, o4 + q * 3, none⟩ = some (.string x.nm) ∧ Fr A w1 g4) := ⟨hz, hg4⟩
              clear hx hm hr4 hz hg4 HU HW HD
              go_wp2_with (first
                | ((with_reducible show wpList _ _ _ _ _ _); refine wpList_store_str rfl (.tmp 53) (.const (.string ⟨#[111, 118, 101, 114]⟩)) rfl g4 (o4 + q * 3) ⟨#[111, 118, 101, 114]⟩ (by first | rfl | (simp; done)) rfl _ r1 f1 ?_; refine Hid.out ?_))
              refine hidU ?_
              generalize hw4 : wr.setCell ⟨g4, o4 + q * 3, none⟩ _ = w4
              have HV4 : Hid (Ov A (K3 + W + 4 * (q + 1)) w1 w4) := by
                rw [← hw4]
                refine (hv.out.mono (L := K3 + W + 4 * (q + 1)) (by omega)).set HZ.out.2 HZ.out.1 (.inr (.inr ⟨_, _, rfl, rfl, ?_⟩))
                have e1 : (⟨#[111, 118, 101, 114]⟩ : ByteArray).size = 4 := rfl
                omega
              clear hw4 hv r2 rl r1 f1
              go_wp2_with fail
              go_roundw
              case rel => exact ⟨q + 1, by go_num, by omega, HV4⟩
              case measure => simp [intOf]; omega
            · have hqm : q = m := by omega
              subst hqm
              obtain ⟨s, r1, hs⟩ := hv.out.str HQ.out.2.2 HQ.out.1
              have f1 := hv.out.frozen HQ.out.2.2 (o3 + i3 * 3)
              clear HD HU
              go_wp2_with (first
                | ((with_reducible show wpList _ _ _ _ _ _); refine wpList_store_str rfl (.tmp 58) (.const (.string ⟨#[111, 118, 101, 114]⟩)) rfl g3 (o3 + i3 * 3) ⟨#[111, 118, 101, 114]⟩ (by first | rfl | (simp; done)) rfl _ r1 f1 ?_; refine Hid.out ?_))
              refine hidU ?_
              generalize hw4 : wr.setCell ⟨g3, o3 + i3 * 3, none⟩ _ = w4
              have HV4 : Hid (Ov A (K2 + 4 * (((ts.map TT.th).take (i3 + 1)).map thW).sum) w1 w4) := by
                rw [← hw4]
                refine ((hv.out.mono (L := K3 + W + 4 * q + 4) (by omega)).set HQ.out.2.2 HQ.out.1 (.inr (.inr ⟨_, _, rfl, rfl, ?_⟩))).mono HE.out.1
                have e1 : (⟨#[111, 118, 101, 114]⟩ : ByteArray).size = 4 := rfl
                omega
              clear hw4 hv r2 rl r1 f1
              go_wp2_with fail
              go_roundw
              case rel => exact ⟨i3 + 1, by go_num, by omega, HV4⟩
              case measure => simp [intOf]; omega
        · clear HU HW
          go_wp2_with fail
          go_end0
          exact ⟨rfl, HB.out.trans hv.out.bel⟩

theorem overProgram_any (A B : Nat) (p : PT) (w : World) (hin : p.In B w) (hl : p.Lies (Fr A w)) (hBw : B ≤ w.heap.size) (hA : A ≤ w.heap.size) (hW : pgW p.pg ≤ 1048576) (hc : p.c2 = p.mutexes.length) :
    Calls Tryz.prog 25 #[.agg p.cells.toArray] w fun r w' => r = .returned (.tuple #[]) ∧ Below A w w' := by
  have hw' : ((p.shared.map VT.vr).map vrW).sum + ((p.mutexes.map fun s : ByteArray => s.data.toList).map fun m => m.length + 1).sum + ((p.threads.map TT.th).map thW).sum ≤ 1048576 := hW
  have e : p.cells = [.slice p.a1 p.shared.length p.c1, .slice p.a2 p.mutexes.length p.mutexes.length, .slice p.a3 p.threads.length p.c3] := by
    simp only [PT.cells, hc]
  rw [e]
  refine overProgram_at A B p.shared p.a1 p.c1 p.mutexes p.a2 p.threads p.a3 p.c3 w hin.1 (by have := hin.2.1; rw [hc] at this; exact this) hin.2.2 hl.1 hl.2.1 hl.2.2.1 hl.2.2.2 hBw hA (fun s hs => ?_) (by omega)
  have h1 := sum_take_le (fun m : List UInt8 => m.length + 1) (p.mutexes.map fun s : ByteArray => s.data.toList) 0
  have h2 := le_sum (fun m : List UInt8 => m.length + 1) (p.mutexes.map fun s : ByteArray => s.data.toList) s.data.toList (List.mem_map_of_mem (f := fun s : ByteArray => s.data.toList) hs)
  have h3 : s.size = s.data.toList.length := by rw [Array.length_toList]; rfl
  omega

end Go.Proofs.YtcmahiphfpgadaaGreatDoor
