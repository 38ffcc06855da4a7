/- The contracts of strings.Builder's writing methods, laid by hand over this program's numbers. strings.Builder: what its methods do, over lists of bytes. -/
import Derived.Test.YtjdpkhjoecfhlaaDoorRows
import Derived.Shelf.Strings.BuilderF
import Derived.Shelf.Strings.BuilderK
import Derived.Test.YtjdpkhjoecfhlaaDoorEd
import Derived.Test.YtjdpkhjoecfhlaaDoorShelf

namespace Go.Proofs.YtjdpkhjoecfhlaaDoor
open Go.Shelf Go.RowKit

def bldRen : Go.Shelf.Ren := ⟨fun | 166 => 40 | 240 => 58 | 276 => 81 | n => n, fun | 0 => 0 | 3 => 3 | 4 => 4 | 5 => 5 | 9 => 9 | 20 => 20 | 37 => 78 | 70 => 77 | 72 => 80 | 75 => 83 | 80 => 86 | 164 => 109 | n => n, fun | n => n⟩

theorem bld240 : Go.Proofs.Lays.n240 Tryd.prog bldRen := {
  mixed := by kernel_rfl
  f240 := Tryd.func58.trans (congrArg some (by kernel_rfl))
  f276 := Tryd.func81.trans (congrArg some (by kernel_rfl))
  t0 := Tryd.underlying0
  a0 := Tryd.isAgg0
  z0 := Tryd.sizeOf0
  v0 := Tryd.zeroValue0
  t4 := Tryd.underlying4
  a4 := Tryd.isAgg4
  z4 := Tryd.sizeOf4
  v4 := Tryd.zeroValue4
  t9 := Tryd.underlying9
  a9 := Tryd.isAgg9
  z9 := Tryd.sizeOf9
  v9 := Tryd.zeroValue9
  t20 := Tryd.underlying20
  a20 := Tryd.isAgg20
  z20 := Tryd.sizeOf20
  v20 := Tryd.zeroValue20
  t70 := Tryd.underlying77
  a70 := Tryd.isAgg77
  z70 := Tryd.sizeOf77
  v70 := Tryd.zeroValue77
  t72 := Tryd.underlying80
  a72 := Tryd.isAgg80
  z72 := Tryd.sizeOf80
  v72 := Tryd.zeroValue80
  t164 := Tryd.underlying109
  a164 := Tryd.isAgg109
  z164 := Tryd.sizeOf109
  v164 := Tryd.zeroValue109 }

theorem bld166 : Go.Proofs.Lays.n166 Tryd.prog bldRen := {
  mixed := by kernel_rfl
  f166 := Tryd.func40.trans (congrArg some (by kernel_rfl))
  f240 := Tryd.func58.trans (congrArg some (by kernel_rfl))
  f276 := Tryd.func81.trans (congrArg some (by kernel_rfl))
  t0 := Tryd.underlying0
  a0 := Tryd.isAgg0
  z0 := Tryd.sizeOf0
  v0 := Tryd.zeroValue0
  t3 := Tryd.underlying3
  a3 := Tryd.isAgg3
  z3 := Tryd.sizeOf3
  v3 := Tryd.zeroValue3
  t4 := Tryd.underlying4
  a4 := Tryd.isAgg4
  z4 := Tryd.sizeOf4
  v4 := Tryd.zeroValue4
  t9 := Tryd.underlying9
  a9 := Tryd.isAgg9
  z9 := Tryd.sizeOf9
  v9 := Tryd.zeroValue9
  t20 := Tryd.underlying20
  a20 := Tryd.isAgg20
  z20 := Tryd.sizeOf20
  v20 := Tryd.zeroValue20
  t37 := Tryd.underlying78
  a37 := Tryd.isAgg78
  z37 := Tryd.sizeOf78
  v37 := Tryd.zeroValue78
  t70 := Tryd.underlying77
  a70 := Tryd.isAgg77
  z70 := Tryd.sizeOf77
  v70 := Tryd.zeroValue77
  t72 := Tryd.underlying80
  a72 := Tryd.isAgg80
  z72 := Tryd.sizeOf80
  v72 := Tryd.zeroValue80
  t75 := Tryd.underlying83
  a75 := Tryd.isAgg83
  z75 := Tryd.sizeOf83
  v75 := Tryd.zeroValue83
  t164 := Tryd.underlying109
  a164 := Tryd.isAgg109
  z164 := Tryd.sizeOf109
  v164 := Tryd.zeroValue109 }

theorem bldX : Builder.Extra Tryd.prog bldRen := {
  sizeBuilder := by kernel_rfl
  liesBuilder := by kernel_rfl
  t5 := Tryd.underlying5
  a5 := Tryd.isAgg5
  z5 := Tryd.sizeOf5
  v5 := Tryd.zeroValue5
  infoByte := by kernel_rfl
  cellsByte := by kernel_rfl
  sizeByte := by kernel_rfl
  neB5 := by decide }

end Go.Proofs.YtjdpkhjoecfhlaaDoor

namespace Go.Proofs.YtjdpkhjoecfhlaaDoor
open Go.RowKit Go.Shelf

/-- the builder at block b holds the bytes bs; what it owns lies from block B on -/
def Bld (w : World) (B b : Nat) (bs : List UInt8) : Prop := Lib.IsBuilderF 80 5 B b (Lib.byteCells bs) w

theorem Bld.new (w : World) : Bld (w.alloc (.cells #[.pointer none, .slice none 0 0] 80)) w.heap.size w.heap.size [] :=
  Lib.IsBuilderF.of (Lib.fresh_isBuilder 80 5 w)

theorem Bld.below {w w' : World} {B b : Nat} {bs : List UInt8} (h : Bld w B b bs) (hb : Below w.heap.size w w') : Bld w' B b bs := by
  have key : ∀ p, Lib.BuilderAtF 80 5 B b p (Lib.byteCells bs) w → Lib.BuilderAtF 80 5 B b p (Lib.byteCells bs) w' := fun p hp => by
    have hlt := hp.lt
    obtain ⟨h1, v, h2, h3, h4⟩ := hp
    exact ⟨h1, v, (hb.block b hlt).trans h2, h3.kept (row := none) ⟨hb.os, hb.tape, hb.output, hb.size, fun k hk _ => hb.block k hk⟩ (by cases hv : v.ownBlock <;> simp), h4⟩
  rcases h with h | h
  · exact .inl (key _ h)
  · exact .inr (key _ h)

theorem Bld.alloc {w : World} {B b : Nat} {bs : List UInt8} (h : Bld w B b bs) (o : Obj) : Bld (w.alloc o) B b bs := h.below ((Below.refl _ _).alloc (Nat.le_refl _) o)
theorem Bld.drew {w : World} {B b : Nat} {bs : List UInt8} (h : Bld w B b bs) : Bld w.drew B b bs := h.below (Below.refl _ _).drew

theorem Bld.lt {w : World} {B b : Nat} {bs : List UInt8} (h : Bld w B b bs) : b < w.heap.size := by
  rcases h with h | h
  · exact h.lt
  · exact h.lt

theorem byteCells_append (a b : List UInt8) : Lib.byteCells (a ++ b) = Lib.byteCells a ++ Lib.byteCells b := by simp [Lib.byteCells]

/-- what a call keeps: all below B; every block that is no row of bytes, but the builder -/
def Keep (B b : Nat) (w w' : World) : Prop := Below B w w' ∧ Lib.OthersKept 5 (some b) w w'

theorem writeString_any (B b : Nat) (bs : List UInt8) (s : ByteArray) (w : World) (h : Bld w B b bs) (hlen : bs.length + s.size ≤ 140737488355328) (hB : B ≤ w.heap.size) :
    Calls Tryd.prog 40 #[.pointer (some ⟨b, 0, none⟩), .string s] w fun e w' => e = .returned (.tuple #[.int .i64 s.size, .nilIface]) ∧ Bld w' B b (bs ++ s.data.toList) ∧ Keep B b w w' :=
  (Any.Builder_WriteString_k bld166 bldX B b (Lib.byteCells bs) s w h (by rw [Lib.byteCells_length]; exact hlen) hB).mono fun _ _ ⟨he, h1, h2, h3⟩ => ⟨he, .inr (by rw [byteCells_append]; exact h1), h2, h3⟩

theorem bstring_any (B b : Nat) (bs : List UInt8) (w : World) (h : Bld w B b bs) (hB : B ≤ w.heap.size) :
    Calls Tryd.prog 41 #[.pointer (some ⟨b, 0, none⟩)] w fun e w' => e = .returned (.string ⟨bs.toArray⟩) ∧ Keep B b w w' :=
  (Tryd.Builder_String_any_k B b bs w h hB).mono fun _ _ ⟨he, _, h2, h3⟩ => ⟨he, h2, h3⟩

/-- a block of the call's own that is no row of bytes: its cells behind such a call -/
theorem Keep.cell {B b : Nat} {w w' : World} (h : Keep B b w w') {k : Nat} {cs : Array Value} {T : TypeId} (hk : w.heap[k]? = some (.cells cs T (0, 0))) (hkb : k ≠ b) (hT : T ≠ 5) (j : Nat) : w'.cell? ⟨k, j, none⟩ = cs[j]? := by
  have := h.2 k _ hk (fun e => hkb (Option.some.inj e)) (fun c fz e => by cases e; exact hT rfl)
  exact cell_of_row w' k j cs T (0, 0) this

theorem Keep.block {B b : Nat} {w w' : World} (h : Keep B b w w') {k : Nat} {cs : Array Value} {T : TypeId} (hk : w.heap[k]? = some (.cells cs T (0, 0))) (hkb : k ≠ b) (hT : T ≠ 5) : w'.heap[k]? = some (.cells cs T (0, 0)) :=
  h.2 k _ hk (fun e => hkb (Option.some.inj e)) (fun c fz e => by cases e; exact hT rfl)

end Go.Proofs.YtjdpkhjoecfhlaaDoor
