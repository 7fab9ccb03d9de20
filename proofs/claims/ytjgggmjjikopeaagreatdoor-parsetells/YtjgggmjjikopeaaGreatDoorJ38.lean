/- J -/
import Derived.Test.YtjgggmjjikopeaaGreatDoorJ37
import Derived.Test.YtjgggmjjikopeaaGreatDoorJ36
set_option linter.unusedVariables false
set_option maxRecDepth 100000
set_option maxHeartbeats 6400000
open Go.RowKit
namespace Go.Proofs.YtjgggmjjikopeaaGreatDoor
theorem YH {B : Nat} (g : Nat) (L : List Tk) (a : Option Addr) (c k en er pl ne bl : Nat) (he : er ≠ 0) (w : World) (h : Qd B w g L a c k en er pl ne bl) :
  Calls Tryz.prog 68 #[.pointer (some ⟨g, 0, none⟩)] w fun r w' => r = .returned (.slice none 0 0) /\ w' = w := by
 have C30 : Calls Tryz.prog 30 #[.pointer (some ⟨g, 0, none⟩)] w fun r w' => r = .returned (.bool false) /\ w' = w := by
  have := zJ g L.length a c k en er pl ne bl w h.cell
  rw [zN he, Bool.false_and] at this
  exact this
 clear h he
 go_enter Tryz.func68, Tryz.ntmps68
 go_wp2_with fail
 go_loopw [3] (fun v wr => v = .slice none 0 0 /\ wr = w) (fun _ _ => 0)
 case atStart => exact ⟨rfl, rfl⟩
 case round =>
  obtain ⟨rfl, rfl⟩ := hrel
  go_wp2_with (go_at_call 30; refine C30.mono ?_; rintro _ _ ⟨rfl, rfl⟩)
  go_ret
  exact ⟨rfl, rfl⟩
theorem qd {B : Nat} (g : Nat) (L : List Tk) (a : Option Addr) (c k en er pl ne bl : Nat) (he : er ≠ 0) (hbl : bl <= 1048576) (w : World) (h : Qd B w g L a c k en er pl ne bl) :
  Calls Tryz.prog 134 #[.pointer (some ⟨g, 0, none⟩)] w fun r w' => r = .returned (.slice none 0 0) /\ Qd B w' g L a c L.length en er pl ne bl /\ But g w w' := by
 have C41 : Calls Tryz.prog 41 #[.pointer (some ⟨g, 0, none⟩)] w fun r w' => r = .returned (.int .i64 ((hdT (za L k en)).place : Int)) /\ Below w.heap.size w w' := (ZU g L a c k en er pl ne bl w h).mono (by rintro r w' ⟨rfl, m, rfl⟩; exact ⟨rfl, below_drewN w m⟩)
 have HQ : Hid (Qd B w g L a c k en er pl ne bl) := h
 clear h
 go_enter Tryz.func134, Tryz.ntmps134
 go_wp2_with (go_at_call 41; refine C41.mono ?_; rintro _ u1 ⟨rfl, hb1⟩; refine zb ?_)
 refine zd ?_
 have hQ1 := HQ.out.below hb1
 have hB1 : But g w u1 := But.of_below hb1
 clear C41 hb1 HQ
 have C67 := Zo g L a c k en er pl ne bl he ⟨#[123]⟩ (by decide) u1 hQ1
 go_wp2_with (go_at_call 67; refine C67.mono ?_; rintro _ u2 ⟨rfl, hQ2, hb2⟩; refine zb ?_)
 refine zd ?_
 have hB2 := hB1.trans hb2
 clear C67 hQ1 hB1 hb2
 have hA2 := hQ2.cell
 obtain ⟨q0, q1, q2, q3, q4, q5, q6⟩ := zv hA2
 have hw1 : IntKind.i64.wrap ((bl : Int) + 1) = ((bl + 1 : Nat) : Int) := by rw [IntKind.wrap_i64]; omega
 go_wp2_with (refine zz rfl rfl hA2 6 (.int .i64 ((bl + 1 : Nat) : Int)) rfl (by first | rfl | (simp only [hw1]; rfl) | (show Value.int _ _ = _; rw [hw1])) i3 ?_; intro u3 hA3 hb3; refine zb ?_)
 refine zd ?_
 have hA3 : At 71 u3 g (q7 a L.length c L.length en er pl ne (bl + 1)) := hA3
 have hQ3 := hQ2.set hA3 hb3 (zj _)
 have hB3 := hB2.trans hb3
 clear hA2 hQ2 hB2 hb3 q0 q1 q2 q3 q4 q5 q6 hw1
 have C30 : Calls Tryz.prog 30 #[.pointer (some ⟨g, 0, none⟩)] u3 fun r w' => r = .returned (.bool false) /\ w' = u3 := by
  have := zJ g L.length a c L.length en er pl ne (bl + 1) u3 hQ3.cell
  rw [zN he, Bool.false_and] at this
  exact this
 have C68 := YH g L a c L.length en er pl ne (bl + 1) he u3 hQ3
 have C67 := Zo g L a c L.length en er pl ne (bl + 1) he ⟨#[125]⟩ (by decide) u3 hQ3
 go_wp2_with (first
  | (go_at_call 30; refine C30.mono ?_; rintro _ _ ⟨rfl, rfl⟩)
  | (go_at_call 68; refine C68.mono ?_; rintro _ _ ⟨rfl, rfl⟩)
  | (go_at_call 67; refine C67.mono ?_; rintro _ u4 ⟨rfl, hQ4, hb4⟩; refine zb ?_))
 refine zd ?_
 have hB4 := hB3.trans hb4
 clear C30 C68 C67 hA3 hQ3 hB3 hb4
 have hA4 := hQ4.cell
 obtain ⟨q0, q1, q2, q3, q4, q5, q6⟩ := zv hA4
 have hw1 : IntKind.i64.wrap (((bl + 1 : Nat) : Int) - 1) = (bl : Int) := by rw [IntKind.wrap_i64]; omega
 go_wp2_with (refine zz rfl rfl hA4 6 (.int .i64 (bl : Int)) rfl (by first | rfl | (simp only [hw1]; rfl) | (show Value.int _ _ = _; rw [hw1])) i3 ?_; intro u5 hA5 hb5; refine zb ?_)
 refine zd ?_
 have hA5 : At 71 u5 g (q7 a L.length c L.length en er pl ne bl) := hA5
 have hQ5 := hQ4.set hA5 hb5 (zj _)
 have hB5 := hB4.trans hb5
 clear hA4 hQ4 hB4 hb5 q0 q1 q2 q3 q4 q5 q6 hw1 hA5
 go_wp2_with fail
 go_ret
 exact ⟨rfl, hQ5, hB5⟩
theorem zcD (B g : Nat) (L : List Tk) (a : Option Addr) (c k en er pl d bl : Nat) (he : er ≠ 0) (w : World) (hQ : Qd B w g L a c k en er pl d bl) (hB : B <= w.heap.size) :
  Calls Tryz.prog 39 #[.pointer (some ⟨g, 0, none⟩)] w fun r w' => r = .returned (.agg noX.cells.toArray) /\ Qd B w' g L a c k en er pl 0 bl /\ But g w w' := by
 have hlt := hQ.lt
 have HR : Hid (∀ u, Qd B u g L a c k en er pl 0 bl -> B <= u.heap.size -> Calls Tryz.prog 72 #[.pointer (some ⟨g, 0, none⟩)] u fun r w' => r = .returned (.agg noX.cells.toArray) /\ Qd B w' g L a c k en er pl 0 bl /\ But g u w') := fun u hu hs => Jz B g L a c k en er pl 0 bl he u hu hs
 have HQ : Hid (Qd B w g L a c k en er pl d bl) := hQ
 have hA := hQ.cell
 have hle := hQ.le
 clear hQ he
 generalize hn : L.length = n at *
 go_enter Tryz.func39, Tryz.ntmps39
 go_wp2_with (first
  | (refine aL (o := { dst := some 2, .. }) rfl rfl z29 ?_; intro w1 hA1 hb1)
  | (refine zz rfl rfl (hA.below hb1) 5 (.int .i64 0) rfl rfl i3 ?_; intro w2 hA2 hb2; refine zb ?_))
 refine zd ?_
 have l1 := hA1.lt
 have l2 := hb2.size
 have hA2 : At 71 w2 g (q7 a n c k en er pl 0 bl) := hA2
 have hQ2 : Qd B w2 g L a c k en er pl 0 bl := by subst hn; exact (HQ.out.below hb1).set hA2 hb2 hle
 have hA12 := hb2.at hA1 (by omega)
 have hs1' := hb1.size
 clear hA hA2 hA1
 go_wp2_with (first
  | (go_at_call 72; refine (HR.out _ hQ2 (by omega)).mono ?_; rintro _ w3 ⟨rfl, hQ3, hb3⟩; have hA13 := hb3.at hA12 (by omega))
  | (refine sL rfl rfl hA13 noX.cells rfl rfl (i43 _) (yP _) (ET.one _) ?_; intro w9 hA9 hb9))
 refine zr (zh rfl _ _ w.heap.size 43 noX.cells _ rfl hA9 zR rfl (i43 _)) rfl ?_
 exact ⟨rfl, hQ3.but hb9 hB, (((But.of_below hb1).trans hb2).trans hb3).fresh hb9 (zj _)⟩
theorem zcC (S : Rs Unit) (B g : Nat) (L : List Tk) (a : Option Addr) (c k en er pl d bl : Nat) (w : World) (hok : ∀ t ∈ L, Zd t) (hS : StOf L en k er pl S) (hQ : Qd B w g L a c k en er pl d bl) (hB : B <= w.heap.size) :
  Calls Tryz.prog 39 #[.pointer (some ⟨g, 0, none⟩)] w fun r w' => ∃ (y : ET) (k' er' pl' ne' : Nat), r = .returned (.agg y.cells.toArray) /\ Tw w.heap.size w' y /\ But g w w' /\ Qd B w' g L a c k' en er' pl' ne' bl /\ StOf L en k' er' pl' (S.andThen fun _ l => yd l) /\ ne' <= 33 /\ ∀ e l, (S.andThen fun _ l => yd l) = .ok e l -> y.ex = e := by
 cases S with
 | bad e p =>
  obtain ⟨rfl, rfl, rfl, he⟩ := hS
  refine (zcD B g L a c _ en er pl d bl he w hQ hB).mono ?_
  rintro r w' ⟨rfl, hq, hb⟩
  exact ⟨noX, _, _, _, _, rfl, Ym _ _, hb, hq, ⟨rfl, rfl, rfl, he⟩, by decide, fun e l q => by cases q⟩
 | ok u l =>
  obtain ⟨rfl, rfl, rfl⟩ := hS
  obtain ⟨f2, h2⟩ := (zgb _).1 1 0 _ _ (by omega) (by omega) (Ji (za L k en))
  refine (zdE f2 _ B g L a c k en d bl w hok h2 hQ hB).mono ?_
  rintro r w' ⟨y, k', er', pl', ne', rfl, hT, hb, hq, hS', h0, h33, hy⟩
  exact ⟨y, k', er', pl', ne', rfl, hT, hb, hq, hS', h33, fun e l q => (hy e l q).1⟩
def XL (R : Rs St) : Rs St := R.bind fun s r => (zq [59] r).bind fun _ r => .ok s r
theorem YS {α : Type} (R : Rs α) (mk : α -> St) : (XL (R.bind fun x r => .ok (mk x) r)).shape = R.shape.andThen fun _ l => zq [59] l := by
 cases R with
 | bad e p => rfl
 | ok v r =>
  show ((zq [59] r).bind fun _ r => (.ok (mk v) r : Rs St)).shape = zq [59] r
  cases zq [59] r <;> rfl
theorem VM {α : Type} {R : Rs α} {mk : α -> St} {s : St} {l : List Tk} (h : XL (R.bind fun x r => .ok (mk x) r) = .ok s l) : ∃ x r, R = .ok x r /\ s = mk x := by
 cases R with
 | bad e p => cases h
 | ok v r =>
  refine ⟨v, r, rfl, ?_⟩
  have h : ((zq [59] r).bind fun _ r => (.ok (mk v) r : Rs St)) = .ok s l := h
  cases hm : zq [59] r with
  | bad e p => rw [hm] at h; cases h
  | ok u r2 => rw [hm] at h; cases h; rfl
def zdv (l : List Tk) : Rs Ex := ((zM l).shape.andThen fun _ r => zq [61] r).andThen fun _ r => yd r
def zeW (l : List Tk) : Rs St := (zM l).bind fun x r => (zq [61] r).bind fun _ r => (yd r).bind fun e r => .ok (.mk 1 x e [] []) r
theorem zdu (l : List Tk) : (XL (zeW l)).shape = (zdv l).shape.andThen fun _ l => zq [59] l := by
 unfold zeW zdv
 cases zM l with
 | bad e p => rfl
 | ok x r =>
  show (XL ((zq [61] r).bind fun _ r => (yd r).bind fun e r => (.ok (.mk 1 x e [] []) r : Rs St))).shape = (((zq [61] r).andThen fun _ r => yd r).shape).andThen fun _ l => zq [59] l
  cases zq [61] r with
  | bad e p => rfl
  | ok u r2 => exact YS (yd r2) fun e => .mk 1 x e [] []
theorem zgT {l l' : List Tk} {s : St} (h : XL (zeW l) = .ok s l') : ∃ x r1 e r2, zM l = .ok x r1 /\ zdv l = .ok e r2 /\ s = .mk 1 x e [] [] := by
 unfold zeW at h
 unfold zdv
 cases hn : zM l with
 | bad e p => rw [hn] at h; cases h
 | ok x r =>
  rw [hn] at h
  have h : XL ((zq [61] r).bind fun _ r => (yd r).bind fun e r => (.ok (.mk 1 x e [] []) r : Rs St)) = .ok s l' := h
  cases hm : zq [61] r with
  | bad e p => rw [hm] at h; cases h
  | ok u r2 =>
   rw [hm] at h
   obtain ⟨e, r3, he, rfl⟩ := VM (R := yd r2) (mk := fun e => .mk 1 x e [] []) h
   refine ⟨x, r, e, r3, rfl, ?_, rfl⟩
   show ((zq [61] r).andThen fun _ r => yd r) = _
   rw [hm]
   exact he
def ebR (f d : Nat) (l : List Tk) : Rs (List St) := (yd l).shape.andThen fun _ r => blockR f d r
theorem qM (f d : Nat) (l : List Tk) : ((yd l).bind fun e r => (blockR f d r).bind fun b r => (.ok (.mk 6 [] e b []) r : Rs St)).shape = (ebR f d l).shape := by
 unfold ebR
 cases yd l with
 | bad e p => rfl
 | ok e r =>
  show ((blockR f d r).bind fun b r => (.ok (.mk 6 [] e b []) r : Rs St)).shape = (blockR f d r).shape
  cases blockR f d r <;> rfl
theorem zdF {f d : Nat} {l l' : List Tk} {s : St} (h : ((yd l).bind fun e r => (blockR f d r).bind fun b r => (.ok (.mk 6 [] e b []) r : Rs St)) = .ok s l') : ∃ e r b, yd l = .ok e r /\ ebR f d l = .ok b l' /\ s = .mk 6 [] e b [] := by
 unfold ebR
 cases he : yd l with
 | bad e p => rw [he] at h; cases h
 | ok e r =>
  rw [he] at h
  have h : ((blockR f d r).bind fun b r => (.ok (.mk 6 [] e b []) r : Rs St)) = .ok s l' := h
  cases hb : blockR f d r with
  | bad e p => rw [hb] at h; cases h
  | ok b r2 => rw [hb] at h; cases h; exact ⟨e, r, b, rfl, hb, rfl⟩
def qy (f d : Nat) (l : List Tk) : Rs (List St) := (ebR f d l).shape.andThen fun _ r => elseR f d r
theorem Kx (f d : Nat) (l : List Tk) : ((yd l).bind fun e r => (blockR f d r).bind fun b r => (elseR f d r).bind fun c r => (.ok (.mk 5 [] e b c) r : Rs St)).shape = (qy f d l).shape := by
 unfold qy ebR
 cases yd l with
 | bad e p => rfl
 | ok e r =>
  show ((blockR f d r).bind fun b r => (elseR f d r).bind fun c r => (.ok (.mk 5 [] e b c) r : Rs St)).shape = ((blockR f d r).shape.andThen fun _ r => elseR f d r).shape
  cases blockR f d r with
  | bad e p => rfl
  | ok b r2 =>
   show ((elseR f d r2).bind fun c r => (.ok (.mk 5 [] e b c) r : Rs St)).shape = (elseR f d r2).shape
   cases elseR f d r2 <;> rfl
theorem zeu {f d : Nat} {l l' : List Tk} {s : St} (h : ((yd l).bind fun e r => (blockR f d r).bind fun b r => (elseR f d r).bind fun c r => (.ok (.mk 5 [] e b c) r : Rs St)) = .ok s l') : ∃ e r b r2 c, yd l = .ok e r /\ ebR f d l = .ok b r2 /\ qy f d l = .ok c l' /\ s = .mk 5 [] e b c := by
 unfold qy
 cases he : yd l with
 | bad e p => rw [he] at h; cases h
 | ok e r =>
  rw [he] at h
  have h : ((blockR f d r).bind fun b r => (elseR f d r).bind fun c r => (.ok (.mk 5 [] e b c) r : Rs St)) = .ok s l' := h
  cases hb : blockR f d r with
  | bad e p => rw [hb] at h; cases h
  | ok b r2 =>
   rw [hb] at h
   have h : ((elseR f d r2).bind fun c r => (.ok (.mk 5 [] e b c) r : Rs St)) = .ok s l' := h
   have heb : ebR f d l = .ok b r2 := by unfold ebR; rw [he]; exact hb
   cases hc : elseR f d r2 with
   | bad e p => rw [hc] at h; cases h
   | ok c r3 => rw [hc] at h; cases h; exact ⟨e, r, b, r2, c, rfl, heb, by rw [heb]; exact hc, rfl⟩
section
variable {B : Nat} {w : World} {T : TypeId} {cs : List Value} {g : Nat} {L : List Tk} {a : Option Addr} {c k en er pl ne bl : Nat} {u : World}
theorem Vs.c66g (h : Vs B w T cs g L a c k en 0 0 ne bl u) (hBw : B <= w.heap.size) : Calls Tryz.prog 66 #[.pointer (some ⟨g, 0, none⟩)] u fun r u' => ∃ (nm : ByteArray) (k' er' pl' : Nat), r = .returned (.string nm) /\ Vs B w T cs g L a c k' en er' pl' ne bl u' /\ But g u u' /\ StOf L en k' er' pl' (zM (za L k en)) /\ ∀ x l, zM (za L k en) = .ok x l -> nm = ⟨x.toArray⟩ := by
 cases hn : Yg (hdT (za L k en)).text with
 | true =>
  refine (h.c66 hBw hn).mono ?_
  rintro r u' ⟨rfl, hV, hb⟩
  have hN : zM (za L k en) = .ok (hdT (za L k en)).text (za L (k + 1) en) := by unfold zM; rw [zi hn, zP (Km hn) rfl]
  rw [hN]
  exact ⟨_, _, _, _, rfl, hV, hb, ⟨rfl, rfl, rfl⟩, fun x l q => by cases q; rfl⟩
 | false =>
  refine (h.c66n hBw hn).mono ?_
  rintro r u' ⟨rfl, hV, hb⟩
  have hN : zM (za L k en) = .bad 4 (hdT (za L k en)).place := by unfold zM; rw [ze (by rw [hn]; decide)]
  rw [hN]
  exact ⟨_, _, _, _, rfl, hV, hb, ⟨rfl, rfl, rfl, by decide⟩, fun x l q => by cases q⟩
theorem Vs.c39 (h : Vs B w T cs g L a c k en er pl ne bl u) (hBw : B <= w.heap.size) (hok : ∀ t ∈ L, Zd t) (S : Rs Unit) (hS : StOf L en k er pl S) : Calls Tryz.prog 39 #[.pointer (some ⟨g, 0, none⟩)] u fun r u' => ∃ (y : ET) (k' er' pl' ne' : Nat), r = .returned (.agg y.cells.toArray) /\ Tw u.heap.size u' y /\ Vs B w T cs g L a c k' en er' pl' ne' bl u' /\ But g u u' /\ StOf L en k' er' pl' (S.andThen fun _ l => yd l) /\ ∀ e l, (S.andThen fun _ l => yd l) = .ok e l -> y.ex = e := by
 refine (zcC S B g L a c k en er pl ne bl u hok hS h.q (zQ hBw h.bt.size)).mono ?_
 rintro r u' ⟨y, k', er', pl', ne', rfl, hT, hb, hq, hS', h33, hy⟩
 exact ⟨y, k', er', pl', ne', rfl, hT, h.step hq hb, hb, hS', hy⟩
end
theorem ZW {ops : Array Oper} {rest : List Oper} {o : Oper} {a : Act} {w : World} {Q : Exit -> Act -> World -> Prop} (hgd : o.guard = none) (x y : Operand) (ho : o.op = .store 43 x y)
  (g : Nat) (e : ET) (hx : a.eval x = .pointer (some ⟨g, 2, none⟩)) (hy : a.eval y = .agg e.cells.toArray) (k : Int) (nm : ByteArray) (e0 : ET) (s1 s2 : Value) (hg : At 51 w g (st9 k nm e0.cells s1 s2))
  (h : ∀ w', At 51 w' g (st9 k nm e.cells s1 s2) -> But g w w' -> w'.heap.size = w.heap.size -> wpList Tryz.prog ops Q rest (a.put o.dst undef) w') : wpList Tryz.prog ops Q (o :: rest) a w := by
 have h0 : e0.cells.length = 5 := by cases e0; rfl
 have h1 : e.cells.length = 5 := by cases e; rfl
 have hl : (st9 k nm e0.cells s1 s2).length = 9 := by simp [st9, h0]
 refine wpList_store_mid hgd 43 x y ho g 2 e.cells.toArray hx hy (by have := hg.there 2 5 (by omega); simpa [h1] using this) (by simpa using i43 e) (all_oneCell_toArray (ET.one e)) ?_
 refine h _ ?_ (But.setCells _ _ _ (But.refl _ _)) (Jw _ _ _ _)
 have := At.setCells e.cells 2 w _ hg (by omega)
 rw [h1] at this
 cases e0
 exact this
