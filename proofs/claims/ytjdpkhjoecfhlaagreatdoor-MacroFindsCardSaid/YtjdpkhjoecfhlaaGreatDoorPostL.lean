/- What closes every law's row of lex: the post from 'Below'; the lists that the row lays; a world for the witness. -/
import Derived.Test.YtjdpkhjoecfhlaaGreatDoorCards
import Derived.Test.YtjdpkhjoecfhlaaGreatDoorTie
import Derived.Test.YtjdpkhjoecfhlaaGreatDoorLexJ
import Derived.WalkKit
import Derived.ProofKit
import Derived.OpenShut
import Derived.SliceStrings
import Derived.Deep.DeepHandedRow
import Derived.Lib.LaidTab
namespace Go.Proofs.YtjdpkhjoecfhlaaGreatDoor
open Go.ChangeShapes Go.WideShapes Go.ChangeAt Go.RowKit

theorem post_of_below {H : Type} {enc : TypeId × Value → H} {P : Program} {f : Func} {s : ChangeSpec} {apart fresh handsOn again : Bool} {W W' : World} {args : Array Value} {v : Value} {ds gs : List (DataW H)} {before pa pv : List MemPlace}
    (hW : DataW.Whole enc P f.params.toList s.vars apart W args.toList ds gs before)
    (hres : ∀ (b : Nat) (sp : Nat → Bool) (hd : Bool), DataW.TrodAll enc P W' b sp hd f.resultTypes.toList (v.resultList f.resultTypes.size) (s.fn H (ds ++ gs)).results [])
    (hargs : ∀ sp : Nat → Bool, (∀ p ∈ before, sp p.block = true) → DataW.TrodAll enc P W' 0 sp true f.params.toList args.toList (s.fn H (ds ++ gs)).args pa)
    (hvars : ∀ sp : Nat → Bool, (∀ p ∈ before, sp p.block = true) → DataW.TrodVars enc P W' sp s.vars (s.fn H (ds ++ gs)).vars pv)
    (hps : before = pa ++ pv) (hb : Below W.heap.size W W')
    (hok : ∀ (j : Nat) (t : TypeId) (r : Value), f.resultTypes[j]? = some t → (v.resultList f.resultTypes.size)[j]? = some r → Value.okWide P W' .any 0 t r) :
    s.post enc P f apart fresh handsOn again W args v W' := by
  have hlt : ∀ p ∈ before, p.block < W.heap.size := fun p hp => by simpa using hW.lt p hp
  have hold : ∀ p ∈ before, (fun b => decide (b < W.heap.size)) p.block = true := fun p hp => by simpa using hW.lt p hp
  refine ⟨ds, gs, before, [], pa, pv, hW, hres _ _ _, hargs _ hold, hvars _ hold, World.keptBut_mono (fun p hp => ⟨hp, ?_⟩) (hb.frame (· ∈ before)), fun _ => ?_⟩
  · rw [hps, List.mem_append] at hp
    exact Or.inr hp
  · obtain ⟨_, _, _, _, _, hz, hn⟩ := hW
    refine ⟨hok, _, _, ([] ++ pa) ++ pv, ⟨[] ++ pa, pv, trodAll_append (hargs _ (fun _ _ => rfl)) (hres _ _ _), hvars _ (fun _ _ => rfl), rfl, ?_, ?_⟩, ?_⟩
    · intro b off hp
      have hp' : MemPlace.cell b off ∈ before := by rw [hps]; simpa using hp
      rw [hb.frozen (p := ⟨b, off, none⟩) (hlt _ hp')]
      exact hz b off hp'
    · intro ha
      have := hn ha
      rw [hps] at this
      simpa using this
    · intro p hp _
      rw [hps]
      simpa using hp

theorem laidMet_rest {P : Program} {W : World} {x : String × DataW Unit} {rest : List (String × DataW Unit)} (h : laidMet P (x :: rest) W) : laidMet P rest W := by
  obtain ⟨ps, ⟨g', t', cs, fuel, p, q, a1, a2, a3, a4, a5, rfl⟩, hn, hh⟩ := h
  exact ⟨q, a5, (List.nodup_append.1 hn).2.1, fun b off hb => hh b off (List.mem_append_right _ hb)⟩

theorem own : ownKnob Tryz.prog.godebug = none := by kernel_rfl
theorem gKeys : Tryz.prog.globalNamed "smocking/lex.keyWords" = some 0 := by kernel_rfl
theorem gKeysType : (Tryz.prog.globals[0]?).map (·.type) = some 59 := by kernel_rfl
theorem gSigns : Tryz.prog.globalNamed "smocking/lex.signWords" = some 1 := by kernel_rfl
theorem gSignsType : (Tryz.prog.globals[1]?).map (·.type) = some 59 := by kernel_rfl
theorem cellsStrL : Tryz.prog.cellsOf 9 = 1 := by kernel_rfl

theorem strs_inj : ∀ (ss : List ByteArray) (l : List (List UInt8)), (strs ss : List (DataW Unit)) = l.map (fun x => .lit (.string x)) → ss = l.map toB
  | [], [], _ => rfl
  | [], _ :: _, h => by simp [strs] at h
  | _ :: _, [], h => by simp [strs] at h
  | s :: ss, x :: l, h => by
    have h' : (DataW.lit (Lit.string s.data.toList) : DataW Unit) = .lit (.string x) ∧ (strs ss : List (DataW Unit)) = l.map (fun x => .lit (.string x)) := by simpa [strs] using h
    have e : s.data.toList = x := by simpa using h'.1
    rw [List.map_cons, ← strs_inj ss l h'.2, ← e, toB_self]

theorem words_of {W : World} {name : String} {g : Nat} {l : List (List UInt8)} {rest : List (String × DataW Unit)} (hg : Tryz.prog.globalNamed name = some g) (hty : (Tryz.prog.globals[g]?).map (·.type) = some 59) (hl : 0 < l.length)
    (h : laidMet Tryz.prog ((name, .slice (l.map fun x => .lit (.string x)) []) :: rest) W) : WordsAt W W.heap.size g (l.map toB) := by
  obtain ⟨ps, ⟨g', t', cs, fuel, p, q, hg', ht', hvar, hd, _, _⟩, _⟩ := h
  obtain rfl := Option.some.inj (hg.symm.trans hg')
  obtain rfl := Option.some.inj (hty.symm.trans ht')
  rcases open_strings Tryz.underlying59 Tryz.underlying9 cellsStrL hd with ⟨_, e⟩ | ⟨a, len, cap, ss, e1, _, hlc, hc, hss, hx, hcell, _⟩
  · simp at e
  · simp only [Prod.mk.injEq, DataW.slice.injEq] at hx
    have hx1 := strs_inj _ _ hx.1.1.symm
    have hx2 : ss.drop len = [] := by
      have := hx.1.2
      cases h : ss.drop len with
      | nil => rfl
      | cons y ys => rw [h] at this; simp [strs] at this
    have hlen : ss.length ≤ len := List.drop_eq_nil_iff.1 hx2
    have hss2 : ss = l.map toB := by rw [← hx1, List.take_of_length_le hlen]
    have hsl : ss.length = l.length := by rw [hss2, List.length_map]
    have hss' : ss.length = cap := by simpa using hss
    have hll : len = l.length := by
      have := congrArg List.length hx1
      rw [List.length_take, List.length_map] at this
      omega
    have h0 := hcell 0 (by omega)
    obtain ⟨B, off, sp⟩ := a
    cases sp with
    | some _ => simp [World.cell?, Addr.add] at h0; split at h0 <;> simp at h0
    | none =>
      have hB : B < W.heap.size := by
        have := World.block_lt_of_cell? W _ h0
        simpa [Addr.add] using this
      have hv : W.cell? ⟨g, 0, none⟩ = some (.slice (some ⟨B, off, none⟩) len cap) := by
        rw [World.var?_cell hg hvar 0, ← Array.getElem?_toList, e1]; rfl
      refine ⟨World.block_lt_of_cell? W _ hv, B, off, cap, hB, by rw [List.length_map, ← hll]; exact hv, fun j hj => ?_⟩
      rw [List.length_map] at hj
      have := hcell j (by omega)
      rw [Addr.add_lit] at this
      rw [this, List.getD_eq_getElem?_getD]
      subst hss2
      simp [hj]

/-- what every row of lex lists -/
def theLaidL : List (String × DataW Unit) := [("smocking/lex.keyWords", Rows.laid_smocking_lex_keyWords), ("smocking/lex.signWords", Rows.laid_smocking_lex_signWords)]
theorem lexG_of {W : World} (h : laidMetH Tryz.prog theLaidL W) (hs : W.ShapedOpen Tryz.prog) : LexG W.heap.size W := by
  have h1 : laidMet Tryz.prog theLaidL W := h
  have h2 := laidMet_rest h1
  obtain ⟨m, hm⟩ := Tryz.laysM143.s1_3 W hs
  exact ⟨Nat.le_refl _, words_of (l := keysL) gKeys gKeysType (by decide) h1, words_of (l := signsL) gSigns gSignsType (by decide) h2, World.block_lt_of_cell? W _ hm, m, hm⟩

def putG (h : Array Obj) (g : Nat) (v : Value) : Array Obj := h.modify g fun o => match o with
  | .cells _ t frozen => .cells #[v] t frozen
  | o => o
/-- a world for the witness: the settled one, both lists laid behind it -/
noncomputable def laidWorldL (os : Os) : World :=
  { World.holding Tryz.prog os ⟨#[], #[], []⟩ with heap := putG (putG (((World.holding Tryz.prog os ⟨#[], #[], []⟩).heap.push (.cells keysV 9)).push (.cells signsV 9)) 0 (.slice (some ⟨(World.holding Tryz.prog os ⟨#[], #[], []⟩).heap.size, 0, none⟩) 28 28)) 1 (.slice (some ⟨(World.holding Tryz.prog os ⟨#[], #[], []⟩).heap.size + 1, 0, none⟩) 47 47) }

end Go.Proofs.YtjdpkhjoecfhlaaGreatDoor
