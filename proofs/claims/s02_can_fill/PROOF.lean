import PyProof.Rows.All
import Wide.All
import OpenK.AllK
import Wide.FinOn
import Open.SpecLaws
import KE.OsGo
import HandS.ForSpec
import HandS.Comp
import PySem.Challenge.RW_layerbars_s02_can_fill
set_option Elab.async false
set_option maxRecDepth 100000
set_option maxHeartbeats 2000000
/-! ### the mathematics -/
namespace LB
open PySem PySem.Spec PyProof.Rows L2
open PySem.W (Codec)
def okSize (i : Int) : Bool := decide (1 ≤ i) && decide (i ≤ 6)
def okAll (w h n : Int) : Bool := [w, h, n].all okSize
theorem okAll_true {w h n : Int} (q : okAll w h n = true) : (1 ≤ w ∧ w ≤ 6) ∧ (1 ≤ h ∧ h ≤ 6) ∧ (1 ≤ n ∧ n ≤ 6) := by
  simp only [okAll, okSize, List.all_cons, List.all_nil, Bool.and_true, Bool.and_eq_true, decide_eq_true_eq] at q
  exact q
theorem okAll_layer {w h n : Int} (hw : 0 ≤ w) (hh : 0 ≤ h) (hn : 0 ≤ n) : Kbe4.validLayer w.toNat h.toNat n.toNat = okAll w h n := by
  have e : ∀ i : Int, 0 ≤ i → (decide (1 ≤ i.toNat) && decide (i.toNat ≤ 6)) = okSize i := fun i hi => by
    unfold okSize
    rw [decide_eq_decide.mpr (show 1 ≤ i.toNat ↔ 1 ≤ i by omega), decide_eq_decide.mpr (show i.toNat ≤ 6 ↔ i ≤ 6 by omega)]
  show (((((decide (1 ≤ w.toNat) && decide (w.toNat ≤ 6)) && decide (1 ≤ h.toNat)) && decide (h.toNat ≤ 6)) && decide (1 ≤ n.toNat)) && decide (n.toNat ≤ 6)) = (okSize w && (okSize h && (okSize n && true)))
  rw [← e w hw, ← e h hh, ← e n hn]
  simp only [Bool.and_assoc, Bool.and_true]
theorem can_tab : ((List.range 7).all fun w => (List.range 7).all fun h => (List.range 7).all fun n => !(Kbe4.validLayer w h n) || ((Kbe4.fill w h n).isSome == (w % n == 0 || h % n == 0))) = true := by decide +kernel
theorem can_out {w h n : Int} (hw : 0 ≤ w) (hh : 0 ≤ h) (hn : 0 ≤ n) (q : okAll w h n = false) : PyKbe4.can_fill w h n = [-22] := by
  have e : Kbe4.validLayer w.toNat h.toNat n.toNat = false := (okAll_layer hw hh hn).trans q
  show (Kbe4.respond (.canFill w.toNat h.toNat n.toNat)).head :: (Kbe4.respond (.canFill w.toNat h.toNat n.toNat)).tail = [-22]
  simp only [Kbe4.respond, e, if_pos, Kbe4.single, Kbe4.invalidArgument]
theorem can_in {w h n : Int} (q : okAll w h n = true) : PyKbe4.can_fill w h n = [if w.fmod n = 0 ∨ h.fmod n = 0 then 1 else 0] := by
  obtain ⟨⟨w1, w6⟩, ⟨h1, h6⟩, n1, n6⟩ := okAll_true q
  have e : Kbe4.validLayer w.toNat h.toNat n.toNat = true := (okAll_layer (by omega) (by omega) (by omega)).trans q
  have t := List.all_eq_true.mp (List.all_eq_true.mp (List.all_eq_true.mp can_tab w.toNat (List.mem_range.mpr (by omega))) h.toNat (List.mem_range.mpr (by omega))) n.toNat (List.mem_range.mpr (by omega))
  rw [e] at t
  simp only [Bool.not_true, Bool.false_or, beq_iff_eq] at t
  have m : ∀ i : Int, 1 ≤ i → (i.toNat % n.toNat == 0) = decide (i.fmod n = 0) := fun i hi => by
    rw [Int.fmod_eq_emod_of_nonneg _ (by omega : 0 ≤ n)]
    have e1 : ((i.toNat % n.toNat : Nat) : Int) = i % n := by
      rw [Int.natCast_emod, Int.toNat_of_nonneg (by omega), Int.toNat_of_nonneg (by omega)]
    by_cases c : i % n = 0
    · rw [decide_eq_true c, beq_iff_eq]
      omega
    · rw [decide_eq_false c]
      exact beq_eq_false_iff_ne.mpr (by omega)
  rw [m w w1, m h h1] at t
  show (Kbe4.respond (.canFill w.toNat h.toNat n.toNat)).head :: (Kbe4.respond (.canFill w.toNat h.toNat n.toNat)).tail = _
  simp only [Kbe4.respond, e, Kbe4.single, t, Bool.or_eq_true, decide_eq_true_eq, Bool.true_eq_false, if_false]
end LB
/-! ### the text -/
namespace LB
open PySem PySem.Spec PyProof.Rows L2
open PySem.W (Codec)
def topS (i : Nat) : Stmt := PySem.Challenge.pw_layerbars_s02_can_fill.main.body.getD i (.Pass ⟨0, 0, 0, 0⟩)
abbrev sCan : Stmt := topS 3
abbrev sSizes : Stmt := topS 4
theorem scZ : FnScope ["width", "height", "length", "size"] ["width", "height", "length"] (defScope sSizes) := ⟨rfl, rfl, rfl, by decide +kernel, rfl, by decide +kernel, by decide +kernel⟩
theorem scC : FnScope ["width", "height", "length"] ["width", "height", "length"] (defScope sCan) := ⟨rfl, rfl, rfl, by decide +kernel, rfl, by decide +kernel, by decide +kernel⟩
/-! ### heaps, lists -/
theorem same_upd {H : Hp} {p : Addr} {o : HO} (h : H p = none) : Same H (upd H p o) := fun b x e => by
  rw [upd_ne (ne_of_none e h)]
  exact e
theorem same_upd2 {H H1 : Hp} {p : Addr} {o : HO} (h : H p = none) (g : Same H H1) : Same H (upd H1 p o) := fun b x e => by
  rw [upd_ne (ne_of_none e h)]
  exact g b x e
theorem take_more {α : Type} : ∀ {l : List α} {i : Nat} {x : α}, l[i]? = some x → l.take (i + 1) = l.take i ++ [x]
  | [], i, x, h => by simp at h
  | a :: l, 0, x, h => by
    have e : a = x := Option.some.inj h
    subst e
    rfl
  | a :: l, i + 1, x, h => by
    have ih := take_more (l := l) (i := i) (x := x) h
    show a :: l.take (i + 1) = a :: l.take i ++ [x]
    rw [ih]
    rfl
theorem map_at {α : Type} {l : List α} {f : α → V} {i : Nat} {x : V} (h : (l.map f)[i]? = some x) : ∃ z, l[i]? = some z ∧ x = f z := by
  rw [List.getElem?_map] at h
  cases e : l[i]? with
  | none =>
    rw [e] at h
    cases h
  | some z =>
    rw [e] at h
    exact ⟨z, rfl, (Option.some.inj h).symm⟩
/-! ### the promises -/
def spSizes : Sp := fun vs H Q _ => ∃ w h n : Int, vs = [.int w, .int h, .int n] ∧ ∀ H' : Hp, Same H H' → Q (.bl (okAll w h n)) H'
def spCan : Sp := fun vs _ Q _ => ∃ w h n : Int, vs = [.int w, .int h, .int n] ∧ 0 ≤ w ∧ 0 ≤ h ∧ 0 ≤ n ∧
  ∀ (H' : Hp) (p : Addr), H' p = some (.lst ((PyKbe4.can_fill w h n).map V.int)) → Q (.ref p) H'
section
variable {P : Program} {w : World} {K : PySem.W.Frag} {mg : Str → Option Value} {base : Heap}
theorem ok_sizes {f : Addr} {fd : FuncData} {t : Tok} (F : Fun K "sizes_in_range" "sizes_in_range" sSizes f fd) (ma : mg "all" = none) (mG : mg "GREATEST_SIZE" = some (.int 6 t)) :
    FnOk P w K mg base CX0 1 f fd ["width", "height", "length"] spSizes := by
  refine F.ok scZ (fun vs H Q E h => ?_) (fun cdv A outer s H vs Q E hr h => ?_)
  · obtain ⟨a, b, c, rfl, _⟩ := h
    rfl
  obtain ⟨a, b, c, rfl, q⟩ := h
  refine ⟨_, pss_one (ps_ret (pe_callB (cr_all rfl) (by rfl) ma (by decide +kernel) (pa_cons
    (pe_lc (own := [("size", 3)]) (g := gName 3) (by rfl) scZ.nd (pi_tup (pe_tup (pa_cons (pv 0) (pa_cons (pv 1) (pa_cons (pv 2) pa_nil)))))
      (blkOk_by (own := [("size", 3)]) (N := ["width", "height", "length", "size"]) (sc := defScope sSizes) (by decide +kernel))
      (fun _ _ _ _ _ => pg_name (i := 3) scZ.nd rfl (Or.inl rfl)) (fun _ _ _ _ _ => pts_nil)
      (fun _ _ _ _ _ => pe_chain op_le op_le pe_int (pv 3) (pe_glob (v := .int 6) rfl mG ⟨_, rfl⟩))) pa_nil))), ?_⟩
  refine ⟨_, rfl, _, rfl, _, rfl, (by show 3 ≤ sizeLine; decide), fun T nT => ?_⟩
  refine ⟨T, rfl, ⟨_, SqT.of upd_same⟩, fun D nD => ?_⟩
  have hT : (upd H T (.tup [.int a, .int b, .int c])) T = some (.tup [.int a, .int b, .int c]) := upd_same
  refine lc_tup (K := K) (a := T) (xs := [a, b, c].map V.int) (fun i H' => Same (upd H T (.tup [.int a, .int b, .int c])) H' ∧ H' D = some (.lst ((([a, b, c].map okSize).take i).map V.bl)))
    ⟨same_upd nD, upd_same⟩ (fun i H' _ z => SqT.of (z.1 _ _ hT)) ?_ ?_
  · rintro i x H' hx ⟨sm, hD⟩
    obtain ⟨z, hz, rfl⟩ := map_at hx
    refine ⟨rfl, ?_⟩
    have fin : ∀ k : Bool, k = okSize z → ∃ acc, H' D = some (HO.lst acc) ∧ acc.length < sizeLine ∧ Same (upd H T (.tup [.int a, .int b, .int c])) (upd H' D (.lst (acc ++ [V.bl k]))) ∧
        upd H' D (.lst (acc ++ [V.bl k])) D = some (.lst ((([a, b, c].map okSize).take (i + 1)).map V.bl)) := fun k ek => by
      subst ek
      have h1 : ([a, b, c].map okSize)[i]? = some (okSize z) := by
        rw [List.getElem?_map, hz]
        rfl
      refine ⟨_, hD, ?_, same_upd2 nD sm, ?_⟩
      · rw [List.length_map, List.length_take]
        exact Nat.lt_of_le_of_lt (Nat.min_le_right _ _) (by show 3 < sizeLine; decide)
      · rw [upd_same, take_more h1, List.map_append]
        rfl
    refine ⟨_, rfl, _, _, rfl, rfl, _, rfl, ?_⟩
    refine ite2 (fun c1 => ⟨_, _, rfl, rfl, fin _ ?_⟩) (fun c1 => fin _ ?_)
    · unfold okSize
      rw [c1, Bool.true_and]
    · unfold okSize
      rw [Bool.eq_false_iff.mpr c1, Bool.false_and]
  · rintro H' ⟨sm, hD⟩
    refine ⟨D, [a, b, c].map okSize, rfl, SqL.of hD, ?_⟩
    have e : ([a, b, c].map okSize).all id = okAll a b c := rfl
    rw [e]
    exact q H' ((same_upd nT).trans sm)
theorem ok_can {f fZ : Addr} {fd fdZ : FuncData} {tO : Tok} (F : Fun K "can_fill" "can_fill" sCan f fd) (GZ : FnOk P w K mg base CX0 1 fZ fdZ ["width", "height", "length"] spSizes) (bZ : Binds K fdZ ["width", "height", "length"] []) (kZ : PySem.W.keepIn K (.ref fZ) = true)
    (mZ : mg "sizes_in_range" = some (.ref fZ)) (mO : mg "OUT_OF_RANGE" = some (.int (-22) tO)) : FnOk P w K mg base CX0 2 f fd ["width", "height", "length"] spCan := by
  refine F.ok scC (fun vs H Q E h => ?_) (fun cdv A outer s H vs Q E hr h => ?_)
  · obtain ⟨a, b, c, rfl, _⟩ := h
    rfl
  obtain ⟨a, b, c, rfl, ha, hb, hc, q⟩ := h
  refine ⟨_, pss_cons (ps_if (pt_not (pt_val (pe_call GZ hr rfl mZ kZ bZ .nil pass0 (pa_cons (pv 0) (pa_cons (pv 1) (pa_cons (pv 2) pa_nil)))))) (pss_one (ps_ret (pe_lst (pa_cons (pe_glob (v := .int (-22)) rfl mO ⟨_, rfl⟩) pa_nil)))) pss_nil)
    (pss_cons (ps_if (PW.pt (pw_or (pt_cmpR op_eq (pe_op op_modN (pv 0) (pv 2)) pe_int (nomark _)) (pw_or1 (pt_cmpR op_eq (pe_op op_modN (pv 1) (pv 2)) pe_int (nomark _)))))
      (pss_one (ps_ret (pe_lst (pa_cons pe_int pa_nil)))) pss_nil)
    (pss_one (ps_ret (pe_lst (pa_cons pe_int pa_nil))))), ?_⟩
  refine ⟨_, rfl, _, rfl, _, rfl, a, b, c, rfl, fun H' sm => ?_⟩
  refine ⟨_, rfl, ?_⟩
  cases e : okAll a b c with
  | false =>
    refine iteT ⟨(by show 1 ≤ sizeLine; decide), fun p _ => q _ p ?_⟩
    rw [upd_same, can_out ha hb hc e]
    rfl
  | true =>
    have c0 : c ≠ 0 := by
      have z := okAll_true e
      omega
    have e2 := can_in e
    refine iteF ⟨_, rfl, _, rfl, _, _, rfl, rfl, c0, rfl, _, rfl, ?_⟩
    refine ite2 (fun d => ?_) (fun d => ?_)
    · have d1 : a.fmod c = 0 := V.int.inj (of_decide_eq_true d)
      refine iteT ⟨(by show 1 ≤ sizeLine; decide), fun p _ => q _ p ?_⟩
      rw [upd_same, e2, if_pos (Or.inl d1)]
      rfl
    · have d1 : ¬ a.fmod c = 0 := fun z => d (decide_eq_true (congrArg V.int z))
      refine ⟨_, rfl, _, rfl, _, _, rfl, rfl, c0, rfl, _, rfl, ?_⟩
      refine ite2 (fun d => ?_) (fun d => ?_)
      · have d2 : b.fmod c = 0 := V.int.inj (of_decide_eq_true d)
        refine ⟨(by show 1 ≤ sizeLine; decide), fun p _ => q _ p ?_⟩
        rw [upd_same, e2, if_pos (Or.inr d2)]
        rfl
      · have d2 : ¬ b.fmod c = 0 := fun z => d (decide_eq_true (congrArg V.int z))
        refine ⟨(by show 1 ≤ sizeLine; decide), fun p _ => q _ p ?_⟩
        rw [upd_same, e2, if_neg (fun z => z.elim d1 d2)]
        rfl
end
/-! ### the end -/
theorem all_mk {P : Program} {w : World} {K : PySem.W.Frag} {h : Heap} {mg : Str → Option Value} {fa f1 f2 : Addr} {t1 t2 : Tok} (X : K.In h) (G : h.Ns mainGlobals mg) (hfa : mg "can_fill" = some (.ref fa))
    {od1 an1 od2 an2 : Option Addr} {sl1 sl2 : Array (Option Value)} {oc1 kV1 dc1 pm1 cd1 ct1 oc2 kV2 dc2 pm2 cd2 ct2 : Value}
    (a1 : PySem.W.nsIn K mainGlobals "can_fill" = some (some (.ref f1))) (l1 : K.lookup f1 = some ⟨oc1, od1, .func (PySem.W.fnOf "can_fill" "can_fill" (defArgs sCan) (defBody sCan) (defScope sCan) .none kV1 dc1 pm1 an1 cd1 ct1), sl1⟩) (c1 : PySem.W.codeIn K cd1 "can_fill" = true) (k1 : PySem.W.keepIn K (.ref f1) = true)
    (a2 : PySem.W.nsIn K mainGlobals "sizes_in_range" = some (some (.ref f2))) (l2 : K.lookup f2 = some ⟨oc2, od2, .func (PySem.W.fnOf "sizes_in_range" "sizes_in_range" (defArgs sSizes) (defBody sSizes) (defScope sSizes) .none kV2 dc2 pm2 an2 cd2 ct2), sl2⟩) (c2 : PySem.W.codeIn K cd2 "sizes_in_range" = true) (k2 : PySem.W.keepIn K (.ref f2) = true)
    (g1 : PySem.W.nsIn K mainGlobals "GREATEST_SIZE" = some (some (.int 6 t1))) (g2 : PySem.W.nsIn K mainGlobals "OUT_OF_RANGE" = some (some (.int (-22) t2))) (z1 : PySem.W.nsIn K mainGlobals "all" = some none) :
    ∃ fd : FuncData, (∀ (s : Shared) (us : List Value), us.length = (["width", "height", "length"] : List Str).length → BindsTo s fd ⟨us, []⟩ ((["width", "height", "length"] : List Str).zip us)) ∧
      ∀ base : Heap, K.In base → base.Ns mainGlobals mg → FnOk P w K mg base CX0 2 fa fd ["width", "height", "length"] spCan := by
  have e := hfa.symm.trans (PySem.W.mg_of X G a1)
  cases e
  have F1 := fun_mk (st := sCan) l1 c1 k1
  have F2 := fun_mk (st := sSizes) l2 c2 k2
  have b2 := F2.binds (ps := ["width", "height", "length"]) fun _ _ _ _ _ _ us hl => match us, hl with | [_, _, _], _ => rfl
  refine ⟨PySem.W.fnOf "can_fill" "can_fill" (defArgs sCan) (defBody sCan) (defScope sCan) .none kV1 dc1 pm1 an1 cd1 ct1, fun s us hu => match us, hu with | [_, _, _], _ => .of_eq rfl, fun base _ _ => ?_⟩
  have GZ := ok_sizes (P := P) (w := w) (base := base) F2 (PySem.W.mg_none_of X G z1) (PySem.W.mg_of X G g1)
  exact ok_can F1 GZ b2 k2 (PySem.W.mg_of X G a2) (PySem.W.mg_of X G g2)
end LB
open PySem PySem.W PyProof.Rows
set_option maxRecDepth 100000 in
set_option maxHeartbeats 8000000 in
theorem PySem.Challenge.cw_layerbars_s02_can_fill_holds : PySem.Challenge.rw_layerbars_s02_can_fill.Holds := by
  w_on; k_headS; (case hw => exact ⟨[.int 1, .int 1, .int 1], by decide +kernel, by decide +kernel⟩)
  k_fillS
  refine L2.walk_specK (r := PySem.Challenge.rw_layerbars_s02_can_fill) (k := 2) (CX := L2.CX0) (ps := ["width", "height", "length"]) (sp := fun _ => LB.spCan) (by decide +kernel) rfl rfl ⟨rfl, by decide, by decide⟩ (fun w h Y => PySem.W.kIn_of Y) ?F ?S (fun _ _ _ _ z => z)
  case F =>
    intro w mg fa h Y KX G hmg
    refine' LB.all_mk KX G hmg ?a1 ?l1 ?c1 ?k1 ?a2 ?l2 ?c2 ?k2 ?g1 ?g2 ?z1
    (case a1 => k_is); (case l1 => k_is); (case c1 => k_is); (case k1 => k_is)
    (case a2 => k_is); (case l2 => k_is); (case c2 => k_is); (case k2 => k_is)
    (case g1 => k_is); (case g2 => k_is); (case z1 => k_is)
  case S =>
    intro K H xs a hO hwi hask hx
    obtain ⟨x, y, n, u⟩ := a
    cases hx with
    | cons h1 r1 =>
      cases r1 with
      | cons h2 r2 =>
        cases r2 with
        | cons h3 r3 =>
          cases r3
          cases h1
          cases h2
          cases h3
          have q : (Codec.inInt 0 4294967295 x && (Codec.inInt 0 4294967295 y && (Codec.inInt 0 4294967295 n && true))) = true := hwi
          simp only [Bool.and_eq_true, Codec.inInt, decide_eq_true_eq] at q
          exact ⟨x, y, n, rfl, q.1.1, q.2.1.1, q.2.2.1.1, fun H' p hp => .lst (L2.SqL.of hp) (L2.dw_ints _)⟩
#print axioms PySem.Challenge.cw_layerbars_s02_can_fill_holds
