import Derived.Test.YtlhnlcbcikbokaaGreatDoorIrA
set_option linter.unusedVariables false
set_option maxRecDepth 100000
namespace Go.Proofs.YtlhnlcbcikbokaaGreatDoor
open Go.Lift
def Tz73:LT:={ live:=[],keep:=[] }
noncomputable def Ez73:Env2:={ tab:=tab,fs:=[],inl:=[] }
def nref02_Check (x:Y1):Option (Int):=
 (bif (decide ((List.length x.1:Int) > (200000:Int))) then (some (8:Int)) else (bif (decide (x.2.1 < (0:Int))) then (some (8:Int)) else (bif (decide (x.2.1 > (List.length x.1:Int))) then (some (8:Int)) else (some (0:Int)))))
def mref02_Check (N:Nat) (x:Y1):Option (Int):=nref02_Check x
theorem jz73 (N:Nat) (x:Y1):rise (Ez73) Tz73 6 N Tryz.f110 [Z2] [Z3] [false] x=nref02_Check x:=by kernel_rfl
theorem lz73 (N:Nat) (x:Y1):rise (Ez73) Tz73 6 N Tryz.f110 [Z2] [Z3] [false] x=mref02_Check N x:=(jz73 N x).trans rfl
def cref02_Check (x:Y1):Option (Int):=mref02_Check big x
def Gz73:Fn2:=⟨[Z2],[Z3],[false],fun x=>cref02_Check x⟩
theorem Lz73:Rises Tryz.prog 110 Gz73:=rises_of (E:=Ez73) ⟨tabOk,fsNil2,fun _ _ _=>rfl,mixed,inlNil,rcsNil,owsNil⟩ Tryz.func110 rfl (by decide) (by kernel_rfl) (by kernel_rfl) (by kernel_rfl) (by kernel_rfl) (fun x r _ h=>⟨Tz73,6,big,(lz73 big x).trans h⟩)
def Tz74:LT:={ live:=[],keep:=[] }
noncomputable def Ez74:Env2:={ tab:=tab,fs:=[],inl:=[] }
def nref02_on (x:Y1×Int):Option (Y1):=
 (let x1:Int:=(IntKind.i64.wrap (x.1.2.1+x.2));(some (x.1.1,(x1,()))))
def mref02_on (N:Nat) (x:Y1×Int):Option (Y1):=nref02_on x
theorem jz74 (N:Nat) (x:Y1×Int):rise (Ez74) Tz74 6 N Tryz.f112 [Z2,Z3] [Z2] [false] x=nref02_on x:=by kernel_rfl
theorem lz74 (N:Nat) (x:Y1×Int):rise (Ez74) Tz74 6 N Tryz.f112 [Z2,Z3] [Z2] [false] x=mref02_on N x:=(jz74 N x).trans rfl
def cref02_on (x:Y1×Int):Option (Y1):=mref02_on big x
def Gz74:Fn2:=⟨[Z2,Z3],[Z2],[false],fun x=>cref02_on x⟩
theorem Lz74:Rises Tryz.prog 112 Gz74:=rises_of (E:=Ez74) ⟨tabOk,fsNil2,fun _ _ _=>rfl,mixed,inlNil,rcsNil,owsNil⟩ Tryz.func112 rfl (by decide) (by kernel_rfl) (by kernel_rfl) (by kernel_rfl) (by kernel_rfl) (fun x r _ h=>⟨Tz74,6,big,(lz74 big x).trans h⟩)
def Tz75:LT:={ live:=[(3,[1,2,5,6,7])],keep:=[] }
noncomputable def Ez75:Env2:={ tab:=tab,fs:=[(112,Gz74)],inl:=[] }
noncomputable def ez75_0 (v:Int×Int×Int×Y1×Y20×Y6):St:={ s:=[(1,(.loc 0 [])),(2,(.loc 1 [])),(5,(.val ⟨Z14,v.1⟩)),(6,(.val ⟨Z14,v.2.1⟩)),(7,(.val ⟨Z3,v.2.2.1⟩))],l:=[(0,.var Z2 (.val ⟨Z2,v.2.2.2.1⟩)),(1,.var Z2 (.pair (.row 2) (.val ⟨(.pair Z3 .unit),v.2.2.2.2.1⟩))),(2,.row Z13 v.2.2.2.2.2)],k:=[],b:=4096 }
def href02_Read_0 (self0:Int×Int×Int×Y1×Y20×Y6→Option Y16) (v:Int×Int×Int×Y1×Y20×Y6):Option Y16:=
 (bif (decide (v.2.2.1 < (10:Int))) then (let x1:Int:=(IntKind.i64.wrap (v.2.2.2.1.2.1+v.2.2.1));(bif (decide (x1≥(List.length v.2.2.2.1.1:Int))) then (let x2:Y1:=(([]:Y6),((0:Int),()));(some (x2,(0:Int),(24:Int)))) else (let x3:Int:=(IntKind.i64.wrap (v.2.2.2.1.2.1+v.2.2.1));((getI v.2.2.2.1.1 x3).bind fun x4=>(bif (v.2.2.1==(9:Int)) then (bif (decide (x4 > (1:Int))) then (let x5:Y1:=(([]:Y6),((0:Int),()));(some (x5,(0:Int),(12:Int)))) else (let x6:Int:=(IntKind.u64.wrap (x4.tmod (128:Int)));(let x7:Int:=(IntKind.u64.wrap (v.2.1 * x6));(let x8:Int:=(IntKind.u64.wrap (v.1+x7));(let x9:Int:=(IntKind.u64.wrap (v.2.1 * (128:Int)));(bif (decide (x4 < (128:Int))) then (bif (x4==(0:Int)) then (bif (decide (v.2.2.1 > (0:Int))) then (let x10:Y1:=(([]:Y6),((0:Int),()));(some (x10,(0:Int),(12:Int)))) else (let x11:Int:=(IntKind.i64.wrap (v.2.2.1+(1:Int)));((cref02_on (v.2.2.2.1,x11)).bind fun x12=>(some (x12,x8,(0:Int)))))) else (let x13:Int:=(IntKind.i64.wrap (v.2.2.1+(1:Int)));((cref02_on (v.2.2.2.1,x13)).bind fun x14=>(some (x14,x8,(0:Int)))))) else (let x15:Int:=(IntKind.i64.wrap (v.2.2.1+(1:Int)));(self0 (x8,x9,x15,v.2.2.2.1,v.2.2.2.2.1,v.2.2.2.2.2))))))))) else (let x16:Int:=(IntKind.u64.wrap (x4.tmod (128:Int)));(let x17:Int:=(IntKind.u64.wrap (v.2.1 * x16));(let x18:Int:=(IntKind.u64.wrap (v.1+x17));(let x19:Int:=(IntKind.u64.wrap (v.2.1 * (128:Int)));(bif (decide (x4 < (128:Int))) then (bif (x4==(0:Int)) then (bif (decide (v.2.2.1 > (0:Int))) then (let x20:Y1:=(([]:Y6),((0:Int),()));(some (x20,(0:Int),(12:Int)))) else (let x21:Int:=(IntKind.i64.wrap (v.2.2.1+(1:Int)));((cref02_on (v.2.2.2.1,x21)).bind fun x22=>(some (x22,x18,(0:Int)))))) else (let x23:Int:=(IntKind.i64.wrap (v.2.2.1+(1:Int)));((cref02_on (v.2.2.2.1,x23)).bind fun x24=>(some (x24,x18,(0:Int)))))) else (let x25:Int:=(IntKind.i64.wrap (v.2.2.1+(1:Int)));(self0 (x18,x19,x25,v.2.2.2.1,v.2.2.2.2.1,v.2.2.2.2.2))))))))))))) else (let x26:Y1:=(([]:Y6),((0:Int),()));(some (x26,(0:Int),(12:Int)))))
def gref02_Read_0 (N:Nat) (self0:Int×Int×Int×Y1×Y20×Y6→Option Y16) (v:Int×Int×Int×Y1×Y20×Y6):Option Y16:=href02_Read_0 self0 v
theorem kz75_0 (N:Nat) (s0:St→Option Y16) (v):(floc (Ez75) Tz75 6 N Tryz.f111 [Z2,Z14,Z3] [false,false,false] [] 0 nowhereR) s0 (ez75_0 v)=href02_Read_0 (fun v=>s0 (ez75_0 v)) v:=by kernel_rfl
theorem bz75_0 (N:Nat) (s0:St→Option Y16) (v):(floc (Ez75) Tz75 6 N Tryz.f111 [Z2,Z14,Z3] [false,false,false] [] 0 nowhereR) s0 (ez75_0 v)=gref02_Read_0 N (fun v=>s0 (ez75_0 v)) v:=kz75_0 N s0 v
def nref02_Read (loop0:Int×Int×Int×Y1×Y20×Y6→Option Y16) (x:Y1):Option Y16:=
 (loop0 ((0:Int),(1:Int),(0:Int),x,((0:Int),()),([]:List Int)))
def mref02_Read (N:Nat) (x:Y1):Option Y16:=nref02_Read (iterV (gref02_Read_0 N) N) x
theorem jz75 (N:Nat) (x:Y1):rise (Ez75) Tz75 6 N Tryz.f111 [Z2] [Z2,Z14,Z3] [false,false,false] x=nref02_Read (fun v=>iterR (floc (Ez75) Tz75 6 N Tryz.f111 [Z2,Z14,Z3] [false,false,false] [] 0 nowhereR) N (ez75_0 v)) x:=by kernel_rfl
theorem lz75 (N:Nat) (x:Y1):rise (Ez75) Tz75 6 N Tryz.f111 [Z2] [Z2,Z14,Z3] [false,false,false] x=mref02_Read N x:=(jz75 N x).trans (by rw [funext (iterR_eq ez75_0 (bz75_0 N) N)];rfl)
def cref02_Read (x:Y1):Option Y16:=mref02_Read big x
def Gz75:Fn2:=⟨[Z2],[Z2,Z14,Z3],[false,false,false],fun x=>cref02_Read x⟩
theorem Lz75:Rises Tryz.prog 111 Gz75:=rises_of (E:=Ez75) ⟨tabOk,(fsCons2 Lz74 fsNil2),fun _ _ _=>rfl,mixed,inlNil,rcsNil,owsNil⟩ Tryz.func111 rfl (by decide) (by kernel_rfl) (by kernel_rfl) (by kernel_rfl) (by kernel_rfl) (fun x r _ h=>⟨Tz75,6,big,(lz75 big x).trans h⟩)
def Tz76:LT:={ live:=[],keep:=[] }
noncomputable def Ez76:Env2:={ tab:=tab,fs:=[(110,Gz73),(111,Gz75)],inl:=[] }
def nref02_Unvary (x:Y1×Int):Option Y16:=
 ((cref02_Check x.1).bind fun x1=>(bif (x1 != (0:Int)) then (let x2:Y1:=(([]:Y6),((0:Int),()));(some (x2,(0:Int),(8:Int)))) else ((cref02_Read x.1).bind fun x3=>(bif (x3.2.2==(0:Int)) then (bif (decide (x3.2.1 > x.2)) then (let x4:Y1:=(([]:Y6),((0:Int),()));(some (x4,(0:Int),(4:Int)))) else (bif (x3.2.2 != (0:Int)) then (let x5:Y1:=(([]:Y6),((0:Int),()));(some (x5,(0:Int),x3.2.2))) else (some (x3.1,x3.2.1,(0:Int))))) else (bif (x3.2.2 != (0:Int)) then (let x6:Y1:=(([]:Y6),((0:Int),()));(some (x6,(0:Int),x3.2.2))) else (some (x3.1,x3.2.1,(0:Int))))))))
def mref02_Unvary (N:Nat) (x:Y1×Int):Option Y16:=nref02_Unvary x
theorem jz76 (N:Nat) (x:Y1×Int):rise (Ez76) Tz76 6 N Tryz.f71 [Z2,Z14] [Z2,Z14,Z3] [false,false,false] x=nref02_Unvary x:=by kernel_rfl
theorem lz76 (N:Nat) (x:Y1×Int):rise (Ez76) Tz76 6 N Tryz.f71 [Z2,Z14] [Z2,Z14,Z3] [false,false,false] x=mref02_Unvary N x:=(jz76 N x).trans rfl
def cref02_Unvary (x:Y1×Int):Option Y16:=mref02_Unvary big x
def Gz76:Fn2:=⟨[Z2,Z14],[Z2,Z14,Z3],[false,false,false],fun x=>cref02_Unvary x⟩
theorem Lz76:Rises Tryz.prog 71 Gz76:=rises_of (E:=Ez76) ⟨tabOk,(fsCons2 Lz73 (fsCons2 Lz75 fsNil2)),fun _ _ _=>rfl,mixed,inlNil,rcsNil,owsNil⟩ Tryz.func71 rfl (by decide) (by kernel_rfl) (by kernel_rfl) (by kernel_rfl) (by kernel_rfl) (fun x r _ h=>⟨Tz76,6,big,(lz76 big x).trans h⟩)
def Tz77:LT:={ live:=[],keep:=[] }
def Tz78:LT:={ live:=[],keep:=[] }
def Tz79:LT:={ live:=[],keep:=[] }
noncomputable def Ez79:Env2:={ tab:=tab,fs:=[(71,Gz76),(110,Gz73),(112,Gz74)],inl:=[] }
def nref02_Untext (x:Y1×Int):Option (Y1×Y6×Int):=
 ((cref02_Check x.1).bind fun x1=>(bif (x1 != (0:Int)) then (let x2:Y1:=(([]:Y6),((0:Int),()));(some (x2,([]:List Int),(8:Int)))) else (bif (decide (x.2 < (0:Int))) then (let x3:Y1:=(([]:Y6),((0:Int),()));(some (x3,([]:List Int),(2:Int)))) else (bif (decide (x.2 > (200000:Int))) then (let x4:Y1:=(([]:Y6),((0:Int),()));(some (x4,([]:List Int),(2:Int)))) else ((cref02_Unvary (x.1,(IntKind.u64.wrap x.2))).bind fun x5=>(bif (x5.2.2 != (0:Int)) then (let x6:Y1:=(([]:Y6),((0:Int),()));(some (x6,([]:List Int),x5.2.2))) else (let x7:Int:=(IntKind.i64.wrap ((List.length x5.1.1:Int) - x5.1.2.1));(bif (decide ((IntKind.u64.wrap x7) < x5.2.1)) then (let x8:Y1:=(([]:Y6),((0:Int),()));(some (x8,([]:List Int),(24:Int)))) else (let x9:Int:=(IntKind.i64.wrap x5.2.1);((cref02_on (x5.1,x9)).bind fun x10=>(let x11:Int:=(IntKind.i64.wrap x5.2.1);(let x12:Int:=(IntKind.i64.wrap (x5.1.2.1+x11));(bif (decide (0≤x5.1.2.1)&&(decide (x5.1.2.1≤x12)&&decide (x12≤(List.length x5.1.1:Int)))) then (let x13:Y6:=(List.drop (Int.toNat x5.1.2.1) (List.take (Int.toNat x12) x5.1.1));(some (x10,x13,(0:Int)))) else none)))))))))))))
def mref02_Untext (N:Nat) (x:Y1×Int):Option (Y1×Y6×Int):=nref02_Untext x
theorem jz79 (N:Nat) (x:Y1×Int):rise (Ez79) Tz79 6 N Tryz.f74 [Z2,Z3] [Z2,.str,Z3] [false,false,false] x=nref02_Untext x:=by kernel_rfl
theorem lz79 (N:Nat) (x:Y1×Int):rise (Ez79) Tz79 6 N Tryz.f74 [Z2,Z3] [Z2,.str,Z3] [false,false,false] x=mref02_Untext N x:=(jz79 N x).trans rfl
def cref02_Untext (x:Y1×Int):Option (Y1×Y6×Int):=mref02_Untext big x
def Gz79:Fn2:=⟨[Z2,Z3],[Z2,.str,Z3],[false,false,false],fun x=>cref02_Untext x⟩
theorem Lz79:Rises Tryz.prog 74 Gz79:=rises_of (E:=Ez79) ⟨tabOk,(fsCons2 Lz76 (fsCons2 Lz73 (fsCons2 Lz74 fsNil2))),fun _ _ _=>rfl,mixed,inlNil,rcsNil,owsNil⟩ Tryz.func74 rfl (by decide) (by kernel_rfl) (by kernel_rfl) (by kernel_rfl) (by kernel_rfl) (fun x r _ h=>⟨Tz79,6,big,(lz79 big x).trans h⟩)
def Tz80:LT:={ live:=[],keep:=[] }
def Tz81:LT:={ live:=[(4,[0,3,4,5])],keep:=[] }
def Tz82:LT:={ live:=[],keep:=[] }
def Tz83:LT:={ live:=[],keep:=[] }
noncomputable def Ez83:Env2:={ tab:=tab,fs:=[],inl:=[] }
def nref02_Half (x:Int):Option (Int):=
 (bif ((x.tmod (2:Int))==(0:Int)) then (let x1:Int:=(IntKind.u64.wrap (x.tdiv (2:Int)));(some (IntKind.i64.wrap x1))) else (let x2:Int:=(IntKind.u64.wrap (x.tdiv (2:Int)));(let x3:Int:=(IntKind.i64.wrap (0 - (IntKind.i64.wrap x2)));(let x4:Int:=(IntKind.i64.wrap (x3 - (1:Int)));(some x4)))))
def mref02_Half (N:Nat) (x:Int):Option (Int):=nref02_Half x
theorem jz83 (N:Nat) (x:Int):rise (Ez83) Tz83 6 N Tryz.f136 [Z14] [Z3] [false] x=nref02_Half x:=by kernel_rfl
theorem lz83 (N:Nat) (x:Int):rise (Ez83) Tz83 6 N Tryz.f136 [Z14] [Z3] [false] x=mref02_Half N x:=(jz83 N x).trans rfl
def cref02_Half (x:Int):Option (Int):=mref02_Half big x
def Gz83:Fn2:=⟨[Z14],[Z3],[false],fun x=>cref02_Half x⟩
theorem Lz83:Rises Tryz.prog 136 Gz83:=rises_of (E:=Ez83) ⟨tabOk,fsNil2,fun _ _ _=>rfl,mixed,inlNil,rcsNil,owsNil⟩ Tryz.func136 rfl (by decide) (by kernel_rfl) (by kernel_rfl) (by kernel_rfl) (by kernel_rfl) (fun x r _ h=>⟨Tz83,6,big,(lz83 big x).trans h⟩)
def Tz84:LT:={ live:=[],keep:=[] }
noncomputable def Ez84:Env2:={ tab:=tab,fs:=[(71,Gz76),(136,Gz83)],inl:=[] }
def nref02_Unsigned (x:Y1):Option Y16:=
 ((cref02_Unvary (x,(18446744073709551615:Int))).bind fun x1=>(bif (x1.2.2 != (0:Int)) then (let x2:Y1:=(([]:Y6),((0:Int),()));(some (x2,(0:Int),x1.2.2))) else ((cref02_Half x1.2.1).bind fun x3=>(some (x1.1,x3,(0:Int))))))
def mref02_Unsigned (N:Nat) (x:Y1):Option Y16:=nref02_Unsigned x
theorem jz84 (N:Nat) (x:Y1):rise (Ez84) Tz84 6 N Tryz.f113 [Z2] [Z2,Z3,Z3] [false,false,false] x=nref02_Unsigned x:=by kernel_rfl
theorem lz84 (N:Nat) (x:Y1):rise (Ez84) Tz84 6 N Tryz.f113 [Z2] [Z2,Z3,Z3] [false,false,false] x=mref02_Unsigned N x:=(jz84 N x).trans rfl
def cref02_Unsigned (x:Y1):Option Y16:=mref02_Unsigned big x
def Gz84:Fn2:=⟨[Z2],[Z2,Z3,Z3],[false,false,false],fun x=>cref02_Unsigned x⟩
theorem Lz84:Rises Tryz.prog 113 Gz84:=rises_of (E:=Ez84) ⟨tabOk,(fsCons2 Lz76 (fsCons2 Lz83 fsNil2)),fun _ _ _=>rfl,mixed,inlNil,rcsNil,owsNil⟩ Tryz.func113 rfl (by decide) (by kernel_rfl) (by kernel_rfl) (by kernel_rfl) (by kernel_rfl) (fun x r _ h=>⟨Tz84,6,big,(lz84 big x).trans h⟩)
def Tz85:LT:={ live:=[],keep:=[] }
def Tz86:LT:={ live:=[],keep:=[],cnd:=[10,13,19,39,45,50] }
noncomputable def Ez86:Env2:={ tab:=tab,fs:=[],inl:=[] }
def nref06_Shape (x:Int):Option (Y6):=
 (bif (x==(1:Int)) then (some ([119,110,45]:List Int)) else (bif (x==(2:Int)) then (some ([119,116,45]:List Int)) else (bif (x==(3:Int)) then (some ([119,98,45]:List Int)) else (bif (x==(4:Int)) then (some ([119,45,45]:List Int)) else (bif (x==(15:Int)) then (some ([119,45,45]:List Int)) else (bif (x==(5:Int)) then (some ([119,114,45]:List Int)) else (bif (x==(12:Int)) then (some ([119,114,45]:List Int)) else (bif (x==(16:Int)) then (some ([119,114,45]:List Int)) else (bif (x==(18:Int)) then (some ([119,114,45]:List Int)) else (bif (x==(21:Int)) then (some ([119,114,45]:List Int)) else (bif (x==(6:Int)) then (some ([119,114,114]:List Int)) else (bif (x==(7:Int)) then (some ([119,114,114]:List Int)) else (bif (x==(8:Int)) then (some ([119,114,114]:List Int)) else (bif (x==(9:Int)) then (some ([119,114,114]:List Int)) else (bif (x==(10:Int)) then (some ([119,114,114]:List Int)) else (bif (x==(11:Int)) then (some ([119,114,114]:List Int)) else (bif (x==(19:Int)) then (some ([119,114,114]:List Int)) else (bif (x==(13:Int)) then (some ([119,114,102]:List Int)) else (bif (x==(14:Int)) then (some ([114,102,114]:List Int)) else (bif (x==(17:Int)) then (some ([114,114,45]:List Int)) else (bif (x==(20:Int)) then (some ([114,114,114]:List Int)) else (bif (x==(22:Int)) then (some ([105,45,45]:List Int)) else (bif (x==(23:Int)) then (some ([114,105,45]:List Int)) else (bif (x==(24:Int)) then (some ([114,45,45]:List Int)) else (bif (x==(28:Int)) then (some ([114,45,45]:List Int)) else (bif (x==(32:Int)) then (some ([114,45,45]:List Int)) else (bif (x==(25:Int)) then (some ([103,99,45]:List Int)) else (bif (x==(26:Int)) then (some ([99,45,45]:List Int)) else (bif (x==(27:Int)) then (some ([99,45,45]:List Int)) else (bif (x==(29:Int)) then (some ([119,119,45]:List Int)) else (bif (x==(30:Int)) then (some ([45,45,45]:List Int)) else (bif (x==(31:Int)) then (some ([45,45,45]:List Int)) else (bif (x==(33:Int)) then (some ([119,114,45]:List Int)) else (bif (x==(34:Int)) then (some ([101,45,45]:List Int)) else (some ([]:List Int))))))))))))))))))))))))))))))))))))
def mref06_Shape (N:Nat) (x:Int):Option (Y6):=nref06_Shape x
theorem jz86 (N:Nat) (x:Int):rise (Ez86) Tz86 6 N Tryz.f100 [Z13] [.str] [false] x=nref06_Shape x:=by kernel_rfl
theorem lz86 (N:Nat) (x:Int):rise (Ez86) Tz86 6 N Tryz.f100 [Z13] [.str] [false] x=mref06_Shape N x:=(jz86 N x).trans rfl
def cref06_Shape (x:Int):Option (Y6):=mref06_Shape big x
def Gz86:Fn2:=⟨[Z13],[.str],[false],fun x=>cref06_Shape x⟩
theorem Lz86:Rises Tryz.prog 100 Gz86:=rises_of (E:=Ez86) ⟨tabOk,fsNil2,fun _ _ _=>rfl,mixed,inlNil,rcsNil,owsNil⟩ Tryz.func100 rfl (by decide) (by kernel_rfl) (by kernel_rfl) (by kernel_rfl) (by kernel_rfl) (fun x r _ h=>⟨Tz86,6,big,(lz86 big x).trans h⟩)
def Tz87:LT:={ live:=[],keep:=[] }
noncomputable def Ez87:Env2:={ tab:=tab,fs:=[],inl:=[] }
def nref06_Signed (x:Int):Option (Bool):=
 (bif (x==(110:Int)) then (some true) else (bif (x==(103:Int)) then (some true) else (some (x==(101:Int)))))
def mref06_Signed (N:Nat) (x:Int):Option (Bool):=nref06_Signed x
theorem jz87 (N:Nat) (x:Int):rise (Ez87) Tz87 6 N Tryz.f102 [Z13] [.bool] [false] x=nref06_Signed x:=by kernel_rfl
theorem lz87 (N:Nat) (x:Int):rise (Ez87) Tz87 6 N Tryz.f102 [Z13] [.bool] [false] x=mref06_Signed N x:=(jz87 N x).trans rfl
def cref06_Signed (x:Int):Option (Bool):=mref06_Signed big x
def Gz87:Fn2:=⟨[Z13],[.bool],[false],fun x=>cref06_Signed x⟩
theorem Lz87:Rises Tryz.prog 102 Gz87:=rises_of (E:=Ez87) ⟨tabOk,fsNil2,fun _ _ _=>rfl,mixed,inlNil,rcsNil,owsNil⟩ Tryz.func102 rfl (by decide) (by kernel_rfl) (by kernel_rfl) (by kernel_rfl) (by kernel_rfl) (fun x r _ h=>⟨Tz87,6,big,(lz87 big x).trans h⟩)
def Tz88:LT:={ live:=[],keep:=[] }
noncomputable def Ez88:Env2:={ tab:=tab,fs:=[],inl:=[] }
def nref06_Fits (x:Int×Int):Option (Bool):=
 (bif (x.1==(45:Int)) then (some (x.2==(0:Int))) else (bif (x.1==(119:Int)) then (bif (x.1==(119:Int)) then (bif (decide (x.2≥(0:Int))) then (some (decide (x.2 < (16:Int)))) else (some false)) else (bif (x.1==(103:Int)) then (bif (x.1==(103:Int)) then (bif (decide (x.2≥(-1:Int))) then (some (decide (x.2 < (16:Int)))) else (some false)) else (bif (x.1==(116:Int)) then (bif (x.1==(116:Int)) then (bif (decide (x.2≥(0:Int))) then (some (decide (x.2 < (32:Int)))) else (some false)) else (bif (x.1==(98:Int)) then (bif (decide (x.2≥(0:Int))) then (some (decide (x.2 < (2:Int)))) else (some false)) else (bif (x.1==(102:Int)) then (bif (decide (x.2≥(0:Int))) then (some (decide (x.2 < (8:Int)))) else (some false)) else (bif (x.1==(105:Int)) then (bif (decide (x.2≥(0:Int))) then (some (decide (x.2 < (200:Int)))) else (some false)) else (some true))))) else (bif (x.1==(99:Int)) then (bif (decide (x.2≥(0:Int))) then (some (decide (x.2 < (32:Int)))) else (some false)) else (bif (x.1==(98:Int)) then (bif (decide (x.2≥(0:Int))) then (some (decide (x.2 < (2:Int)))) else (some false)) else (bif (x.1==(102:Int)) then (bif (decide (x.2≥(0:Int))) then (some (decide (x.2 < (8:Int)))) else (some false)) else (bif (x.1==(105:Int)) then (bif (decide (x.2≥(0:Int))) then (some (decide (x.2 < (200:Int)))) else (some false)) else (some true))))))) else (bif (x.1==(101:Int)) then (bif (decide (x.2≥(-1:Int))) then (some (decide (x.2 < (16:Int)))) else (some false)) else (bif (x.1==(116:Int)) then (bif (x.1==(116:Int)) then (bif (decide (x.2≥(0:Int))) then (some (decide (x.2 < (32:Int)))) else (some false)) else (bif (x.1==(98:Int)) then (bif (decide (x.2≥(0:Int))) then (some (decide (x.2 < (2:Int)))) else (some false)) else (bif (x.1==(102:Int)) then (bif (decide (x.2≥(0:Int))) then (some (decide (x.2 < (8:Int)))) else (some false)) else (bif (x.1==(105:Int)) then (bif (decide (x.2≥(0:Int))) then (some (decide (x.2 < (200:Int)))) else (some false)) else (some true))))) else (bif (x.1==(99:Int)) then (bif (decide (x.2≥(0:Int))) then (some (decide (x.2 < (32:Int)))) else (some false)) else (bif (x.1==(98:Int)) then (bif (decide (x.2≥(0:Int))) then (some (decide (x.2 < (2:Int)))) else (some false)) else (bif (x.1==(102:Int)) then (bif (decide (x.2≥(0:Int))) then (some (decide (x.2 < (8:Int)))) else (some false)) else (bif (x.1==(105:Int)) then (bif (decide (x.2≥(0:Int))) then (some (decide (x.2 < (200:Int)))) else (some false)) else (some true))))))))) else (bif (x.1==(114:Int)) then (bif (decide (x.2≥(0:Int))) then (some (decide (x.2 < (16:Int)))) else (some false)) else (bif (x.1==(103:Int)) then (bif (x.1==(103:Int)) then (bif (decide (x.2≥(-1:Int))) then (some (decide (x.2 < (16:Int)))) else (some false)) else (bif (x.1==(116:Int)) then (bif (x.1==(116:Int)) then (bif (decide (x.2≥(0:Int))) then (some (decide (x.2 < (32:Int)))) else (some false)) else (bif (x.1==(98:Int)) then (bif (decide (x.2≥(0:Int))) then (some (decide (x.2 < (2:Int)))) else (some false)) else (bif (x.1==(102:Int)) then (bif (decide (x.2≥(0:Int))) then (some (decide (x.2 < (8:Int)))) else (some false)) else (bif (x.1==(105:Int)) then (bif (decide (x.2≥(0:Int))) then (some (decide (x.2 < (200:Int)))) else (some false)) else (some true))))) else (bif (x.1==(99:Int)) then (bif (decide (x.2≥(0:Int))) then (some (decide (x.2 < (32:Int)))) else (some false)) else (bif (x.1==(98:Int)) then (bif (decide (x.2≥(0:Int))) then (some (decide (x.2 < (2:Int)))) else (some false)) else (bif (x.1==(102:Int)) then (bif (decide (x.2≥(0:Int))) then (some (decide (x.2 < (8:Int)))) else (some false)) else (bif (x.1==(105:Int)) then (bif (decide (x.2≥(0:Int))) then (some (decide (x.2 < (200:Int)))) else (some false)) else (some true))))))) else (bif (x.1==(101:Int)) then (bif (decide (x.2≥(-1:Int))) then (some (decide (x.2 < (16:Int)))) else (some false)) else (bif (x.1==(116:Int)) then (bif (x.1==(116:Int)) then (bif (decide (x.2≥(0:Int))) then (some (decide (x.2 < (32:Int)))) else (some false)) else (bif (x.1==(98:Int)) then (bif (decide (x.2≥(0:Int))) then (some (decide (x.2 < (2:Int)))) else (some false)) else (bif (x.1==(102:Int)) then (bif (decide (x.2≥(0:Int))) then (some (decide (x.2 < (8:Int)))) else (some false)) else (bif (x.1==(105:Int)) then (bif (decide (x.2≥(0:Int))) then (some (decide (x.2 < (200:Int)))) else (some false)) else (some true))))) else (bif (x.1==(99:Int)) then (bif (decide (x.2≥(0:Int))) then (some (decide (x.2 < (32:Int)))) else (some false)) else (bif (x.1==(98:Int)) then (bif (decide (x.2≥(0:Int))) then (some (decide (x.2 < (2:Int)))) else (some false)) else (bif (x.1==(102:Int)) then (bif (decide (x.2≥(0:Int))) then (some (decide (x.2 < (8:Int)))) else (some false)) else (bif (x.1==(105:Int)) then (bif (decide (x.2≥(0:Int))) then (some (decide (x.2 < (200:Int)))) else (some false)) else (some true)))))))))))
def mref06_Fits (N:Nat) (x:Int×Int):Option (Bool):=nref06_Fits x
theorem jz88 (N:Nat) (x:Int×Int):rise (Ez88) Tz88 6 N Tryz.f135 [Z13,Z3] [.bool] [false] x=nref06_Fits x:=by kernel_rfl
theorem lz88 (N:Nat) (x:Int×Int):rise (Ez88) Tz88 6 N Tryz.f135 [Z13,Z3] [.bool] [false] x=mref06_Fits N x:=(jz88 N x).trans rfl
def cref06_Fits (x:Int×Int):Option (Bool):=mref06_Fits big x
def Gz88:Fn2:=⟨[Z13,Z3],[.bool],[false],fun x=>cref06_Fits x⟩
theorem Lz88:Rises Tryz.prog 135 Gz88:=rises_of (E:=Ez88) ⟨tabOk,fsNil2,fun _ _ _=>rfl,mixed,inlNil,rcsNil,owsNil⟩ Tryz.func135 rfl (by decide) (by kernel_rfl) (by kernel_rfl) (by kernel_rfl) (by kernel_rfl) (fun x r _ h=>⟨Tz88,6,big,(lz88 big x).trans h⟩)
def Tz89:LT:={ live:=[(11,[2,3,5,6,7,8,9,10])],keep:=[] }
noncomputable def Ez89:Env2:={ tab:=tab,fs:=[(100,Gz86),(102,Gz87),(111,Gz75),(135,Gz88),(136,Gz83)],inl:=[] }
noncomputable def ez89_0 (v:Int×Y6×Bool×Int×Y20×Y6×Y8×Y1×Y6):St:={ s:=[(2,(.loc 0 [])),(3,(.loc 2 [])),(5,(.val ⟨Z13,v.1⟩)),(6,(.val ⟨.str,v.2.1⟩)),(7,(.loc 3 [])),(8,(.loc 4 [])),(9,(.val ⟨.bool,v.2.2.1⟩)),(10,(.val ⟨Z3,v.2.2.2.1⟩))],l:=[(0,.var Z2 (.pair (.row 1) (.val ⟨(.pair Z3 .unit),v.2.2.2.2.1⟩))),(1,.row Z13 v.2.2.2.2.2.1),(2,.var Z5 (.val ⟨Z5,v.2.2.2.2.2.2.1⟩)),(3,.var Z2 (.val ⟨Z2,v.2.2.2.2.2.2.2.1⟩)),(4,.var (.arr 3 Z3) (.val ⟨(.arr 3 Z3),v.2.2.2.2.2.2.2.2⟩))],k:=[],b:=4096 }
def href06_Read_0 (self0:Int×Y6×Bool×Int×Y20×Y6×Y8×Y1×Y6→Option (Y1×Y8×Int)) (v:Int×Y6×Bool×Int×Y20×Y6×Y8×Y1×Y6):Option (Y1×Y8×Int):=
 (bif (decide (v.2.2.2.1 < (3:Int))) then ((getI v.2.1 v.2.2.2.1).bind fun x8=>(bif (x8==(45:Int)) then (let x9:Int:=(IntKind.i64.wrap (v.2.2.2.1+(1:Int)));(self0 (v.1,v.2.1,v.2.2.1,x9,v.2.2.2.2.1,v.2.2.2.2.2.1,v.2.2.2.2.2.2.1,v.2.2.2.2.2.2.2.1,v.2.2.2.2.2.2.2.2))) else ((cref02_Read v.2.2.2.2.2.2.2.1).bind fun x10=>(bif (x10.2.2 != (0:Int)) then (let x11:Y1:=(([]:Y6),((0:Int),()));(let x12:Y8:=((0:Int),((0:Int),((0:Int),((0:Int),()))));(some (x11,x12,x10.2.2)))) else ((getI v.2.1 v.2.2.2.1).bind fun x13=>((cref06_Signed x13).bind fun x14=>(bif x14 then ((cref02_Half x10.2.1).bind fun x15=>(bif (decide (0≤v.2.2.2.1)&&decide (v.2.2.2.1 < (3:Int))) then (let x16:Y6:=(List.set v.2.2.2.2.2.2.2.2 (Int.toNat v.2.2.2.1) x15);(bif v.2.2.1 then ((getI v.2.1 v.2.2.2.1).bind fun x17=>(bif (decide (0≤v.2.2.2.1)&&decide (v.2.2.2.1 < (3:Int))) then ((nth x16 (Int.toNat v.2.2.2.1)).bind fun x18=>((cref06_Fits (x17,x18)).bind fun x19=>(let x20:Int:=(IntKind.i64.wrap (v.2.2.2.1+(1:Int)));(self0 (v.1,v.2.1,x19,x20,v.2.2.2.2.1,v.2.2.2.2.2.1,v.2.2.2.2.2.2.1,x10.1,x16))))) else none)) else (let x21:Int:=(IntKind.i64.wrap (v.2.2.2.1+(1:Int)));(self0 (v.1,v.2.1,false,x21,v.2.2.2.2.1,v.2.2.2.2.2.1,v.2.2.2.2.2.2.1,x10.1,x16))))) else none)) else (bif v.2.2.1 then (let x22:Int:=(x10.2.1.tmod (1000:Int));(bif (decide (0≤v.2.2.2.1)&&decide (v.2.2.2.1 < (3:Int))) then (let x23:Y6:=(List.set v.2.2.2.2.2.2.2.2 (Int.toNat v.2.2.2.1) (IntKind.i64.wrap x22));(bif (decide (x10.2.1 < (1000:Int))) then ((getI v.2.1 v.2.2.2.1).bind fun x24=>(bif (decide (0≤v.2.2.2.1)&&decide (v.2.2.2.1 < (3:Int))) then ((nth x23 (Int.toNat v.2.2.2.1)).bind fun x25=>((cref06_Fits (x24,x25)).bind fun x26=>(let x27:Int:=(IntKind.i64.wrap (v.2.2.2.1+(1:Int)));(self0 (v.1,v.2.1,x26,x27,v.2.2.2.2.1,v.2.2.2.2.2.1,v.2.2.2.2.2.2.1,x10.1,x23))))) else none)) else (let x28:Int:=(IntKind.i64.wrap (v.2.2.2.1+(1:Int)));(self0 (v.1,v.2.1,false,x28,v.2.2.2.2.1,v.2.2.2.2.2.1,v.2.2.2.2.2.2.1,x10.1,x23))))) else none)) else (let x29:Int:=(x10.2.1.tmod (1000:Int));(bif (decide (0≤v.2.2.2.1)&&decide (v.2.2.2.1 < (3:Int))) then (let x30:Y6:=(List.set v.2.2.2.2.2.2.2.2 (Int.toNat v.2.2.2.1) (IntKind.i64.wrap x29));(let x31:Int:=(IntKind.i64.wrap (v.2.2.2.1+(1:Int)));(self0 (v.1,v.2.1,false,x31,v.2.2.2.2.1,v.2.2.2.2.2.1,v.2.2.2.2.2.2.1,x10.1,x30)))) else none)))))))))) else (bif (!v.2.2.1) then (let x32:Y1:=(([]:Y6),((0:Int),()));(let x33:Y8:=((0:Int),((0:Int),((0:Int),((0:Int),()))));(some (x32,x33,(12:Int))))) else (bif (decide (0≤(0:Int))&&decide ((0:Int) < (3:Int))) then ((nth v.2.2.2.2.2.2.2.2 (Int.toNat (0:Int))).bind fun x34=>(bif (decide (0≤(1:Int))&&decide ((1:Int) < (3:Int))) then ((nth v.2.2.2.2.2.2.2.2 (Int.toNat (1:Int))).bind fun x35=>(bif (decide (0≤(2:Int))&&decide ((2:Int) < (3:Int))) then ((nth v.2.2.2.2.2.2.2.2 (Int.toNat (2:Int))).bind fun x36=>(let x37:Y8:=(v.1,(x34,(x35,(x36,()))));(some (v.2.2.2.2.2.2.2.1,x37,(0:Int))))) else none)) else none)) else none)))
def gref06_Read_0 (N:Nat) (self0:Int×Y6×Bool×Int×Y20×Y6×Y8×Y1×Y6→Option (Y1×Y8×Int)) (v:Int×Y6×Bool×Int×Y20×Y6×Y8×Y1×Y6):Option (Y1×Y8×Int):=href06_Read_0 self0 v
theorem kz89_0 (N:Nat) (s0:St→Option (Y1×Y8×Int)) (v):(floc (Ez89) Tz89 6 N Tryz.f114 [Z2,Z5,Z3] [false,false,false] [] 0 nowhereR) s0 (ez89_0 v)=href06_Read_0 (fun v=>s0 (ez89_0 v)) v:=by kernel_rfl
theorem bz89_0 (N:Nat) (s0:St→Option (Y1×Y8×Int)) (v):(floc (Ez89) Tz89 6 N Tryz.f114 [Z2,Z5,Z3] [false,false,false] [] 0 nowhereR) s0 (ez89_0 v)=gref06_Read_0 N (fun v=>s0 (ez89_0 v)) v:=kz89_0 N s0 v
def nref06_Read (loop0:Int×Y6×Bool×Int×Y20×Y6×Y8×Y1×Y6→Option (Y1×Y8×Int)) (x:Y1):Option (Y1×Y8×Int):=
 (bif (x.2.1==(List.length x.1:Int)) then (let x1:Y1:=(([]:Y6),((0:Int),()));(let x2:Y8:=((0:Int),((0:Int),((0:Int),((0:Int),()))));(some (x1,x2,(24:Int))))) else ((getI x.1 x.2.1).bind fun x3=>((cref06_Shape x3).bind fun x4=>(bif ((List.length x4:Int) != (3:Int)) then (let x5:Y1:=(([]:Y6),((0:Int),()));(let x6:Y8:=((0:Int),((0:Int),((0:Int),((0:Int),()))));(some (x5,x6,(12:Int))))) else (let x7:Int:=(IntKind.i64.wrap (x.2.1+(1:Int)));(loop0 (x3,x4,true,(0:Int),((0:Int),()),([]:List Int),((0:Int),((0:Int),((0:Int),((0:Int),())))),(x.1,(x7,())),(List.replicate 3 (0:Int)))))))))
def mref06_Read (N:Nat) (x:Y1):Option (Y1×Y8×Int):=nref06_Read (iterV (gref06_Read_0 N) N) x
theorem jz89 (N:Nat) (x:Y1):rise (Ez89) Tz89 6 N Tryz.f114 [Z2] [Z2,Z5,Z3] [false,false,false] x=nref06_Read (fun v=>iterR (floc (Ez89) Tz89 6 N Tryz.f114 [Z2,Z5,Z3] [false,false,false] [] 0 nowhereR) N (ez89_0 v)) x:=by kernel_rfl
theorem lz89 (N:Nat) (x:Y1):rise (Ez89) Tz89 6 N Tryz.f114 [Z2] [Z2,Z5,Z3] [false,false,false] x=mref06_Read N x:=(jz89 N x).trans (by rw [funext (iterR_eq ez89_0 (bz89_0 N) N)];rfl)
def cref06_Read (x:Y1):Option (Y1×Y8×Int):=mref06_Read big x
def Gz89:Fn2:=⟨[Z2],[Z2,Z5,Z3],[false,false,false],fun x=>cref06_Read x⟩
theorem Lz89:Rises Tryz.prog 114 Gz89:=rises_of (E:=Ez89) ⟨tabOk,(fsCons2 Lz86 (fsCons2 Lz87 (fsCons2 Lz75 (fsCons2 Lz88 (fsCons2 Lz83 fsNil2))))),fun _ _ _=>rfl,mixed,inlNil,rcsNil,owsNil⟩ Tryz.func114 rfl (by decide) (by kernel_rfl) (by kernel_rfl) (by kernel_rfl) (by kernel_rfl) (fun x r _ h=>⟨Tz89,6,big,(lz89 big x).trans h⟩)
def Tz90:LT:={ live:=[],keep:=[] }
noncomputable def Ez90:Env2:={ tab:=tab,fs:=[(110,Gz73),(114,Gz89)],inl:=[] }
def nref06_Decode (x:Y1):Option (Y1×Y8×Int):=
 ((cref02_Check x).bind fun x1=>(bif (x1 != (0:Int)) then (let x2:Y1:=(([]:Y6),((0:Int),()));(let x3:Y8:=((0:Int),((0:Int),((0:Int),((0:Int),()))));(some (x2,x3,(8:Int))))) else ((cref06_Read x).bind fun x4=>(some (x4.1,x4.2.1,x4.2.2)))))
def mref06_Decode (N:Nat) (x:Y1):Option (Y1×Y8×Int):=nref06_Decode x
theorem jz90 (N:Nat) (x:Y1):rise (Ez90) Tz90 6 N Tryz.f76 [Z2] [Z2,Z5,Z3] [false,false,false] x=nref06_Decode x:=by kernel_rfl
theorem lz90 (N:Nat) (x:Y1):rise (Ez90) Tz90 6 N Tryz.f76 [Z2] [Z2,Z5,Z3] [false,false,false] x=mref06_Decode N x:=(jz90 N x).trans rfl
def cref06_Decode (x:Y1):Option (Y1×Y8×Int):=mref06_Decode big x
def Gz90:Fn2:=⟨[Z2],[Z2,Z5,Z3],[false,false,false],fun x=>cref06_Decode x⟩
theorem Lz90:Rises Tryz.prog 76 Gz90:=rises_of (E:=Ez90) ⟨tabOk,(fsCons2 Lz73 (fsCons2 Lz89 fsNil2)),fun _ _ _=>rfl,mixed,inlNil,rcsNil,owsNil⟩ Tryz.func76 rfl (by decide) (by kernel_rfl) (by kernel_rfl) (by kernel_rfl) (by kernel_rfl) (fun x r _ h=>⟨Tz90,6,big,(lz90 big x).trans h⟩)
def Tz91:LT:={ live:=[(4,[0,1,5])],keep:=[] }
noncomputable def Ez91:Env2:={ tab:=tab,fs:=[],inl:=[] }
noncomputable def ez91_0 (v:Y11×Int×Int):St:={ s:=[(0,(.val ⟨(.slice Z6),v.1⟩)),(1,(.val ⟨Z3,v.2.1⟩)),(5,(.val ⟨Z3,v.2.2⟩))],l:=[],k:=[],b:=4096 }
def href08_Fine_0 (self0:Y11×Int×Int→Option (Bool)) (v:Y11×Int×Int):Option (Bool):=
 (bif (decide (v.2.2 < (List.length v.1:Int))) then ((getI v.1 v.2.2).bind fun x2=>(bif (decide (x2.1≥v.2.1)) then (some false) else (bif (decide (v.2.2 > (0:Int))) then (let x3:Int:=(IntKind.i64.wrap (v.2.2 - (1:Int)));((getI v.1 x3).bind fun x4=>((getI v.1 v.2.2).bind fun x5=>(bif (decide (x4.1≥x5.1)) then (some false) else (let x6:Int:=(IntKind.i64.wrap (v.2.2 - (1:Int)));((getI v.1 x6).bind fun x7=>((getI v.1 v.2.2).bind fun x8=>(bif (x7.2.1==x8.2.1) then (some false) else (let x9:Int:=(IntKind.i64.wrap (v.2.2+(1:Int)));(self0 (v.1,v.2.1,x9))))))))))) else (let x10:Int:=(IntKind.i64.wrap (v.2.2+(1:Int)));(self0 (v.1,v.2.1,x10)))))) else (some true))
def gref08_Fine_0 (N:Nat) (self0:Y11×Int×Int→Option (Bool)) (v:Y11×Int×Int):Option (Bool):=href08_Fine_0 self0 v
theorem kz91_0 (N:Nat) (s0:St→Option (Bool)) (v):(floc (Ez91) Tz91 6 N Tryz.f109 [.bool] [false] [] 0 nowhereR) s0 (ez91_0 v)=href08_Fine_0 (fun v=>s0 (ez91_0 v)) v:=by kernel_rfl
theorem bz91_0 (N:Nat) (s0:St→Option (Bool)) (v):(floc (Ez91) Tz91 6 N Tryz.f109 [.bool] [false] [] 0 nowhereR) s0 (ez91_0 v)=gref08_Fine_0 N (fun v=>s0 (ez91_0 v)) v:=kz91_0 N s0 v
def nref08_Fine (loop0:Y11×Int×Int→Option (Bool)) (x:Y11×Int):Option (Bool):=
 (bif (decide ((List.length x.1:Int) < (1:Int))) then (some false) else ((getI x.1 (0:Int)).bind fun x1=>(bif (x1.1 != (0:Int)) then (some false) else (loop0 (x.1,x.2,(0:Int))))))
def mref08_Fine (N:Nat) (x:Y11×Int):Option (Bool):=nref08_Fine (iterV (gref08_Fine_0 N) N) x
theorem jz91 (N:Nat) (x:Y11×Int):rise (Ez91) Tz91 6 N Tryz.f109 [(.slice Z6),Z3] [.bool] [false] x=nref08_Fine (fun v=>iterR (floc (Ez91) Tz91 6 N Tryz.f109 [.bool] [false] [] 0 nowhereR) N (ez91_0 v)) x:=by kernel_rfl
theorem lz91 (N:Nat) (x:Y11×Int):rise (Ez91) Tz91 6 N Tryz.f109 [(.slice Z6),Z3] [.bool] [false] x=mref08_Fine N x:=(jz91 N x).trans (by rw [funext (iterR_eq ez91_0 (bz91_0 N) N)];rfl)
def cref08_Fine (x:Y11×Int):Option (Bool):=mref08_Fine big x
def Gz91:Fn2:=⟨[(.slice Z6),Z3],[.bool],[false],fun x=>cref08_Fine x⟩
theorem Lz91:Rises Tryz.prog 109 Gz91:=rises_of (E:=Ez91) ⟨tabOk,fsNil2,fun _ _ _=>rfl,mixed,inlNil,rcsNil,owsNil⟩ Tryz.func109 rfl (by decide) (by kernel_rfl) (by kernel_rfl) (by kernel_rfl) (by kernel_rfl) (fun x r _ h=>⟨Tz91,6,big,(lz91 big x).trans h⟩)
def Tz92:LT:={ live:=[(9,[1,4,7,8,10,11,12])],keep:=[] }
noncomputable def Ez92:Env2:={ tab:=tab,fs:=[(109,Gz91),(111,Gz75)],inl:=[] }
noncomputable def ez92_0 (v:Int×Int×Int×Int×Y20×Y6×Y1×Y11):St:={ s:=[(1,(.val ⟨Z3,v.1⟩)),(4,(.loc 0 [])),(7,(.loc 2 [])),(8,(.val ⟨Z14,v.2.1⟩)),(10,(.row 3)),(11,(.val ⟨Z14,v.2.2.1⟩)),(12,(.val ⟨Z14,v.2.2.2.1⟩))],l:=[(0,.var Z2 (.pair (.row 1) (.val ⟨(.pair Z3 .unit),v.2.2.2.2.1⟩))),(1,.row Z13 v.2.2.2.2.2.1),(2,.var Z2 (.val ⟨Z2,v.2.2.2.2.2.2.1⟩)),(3,.row Z6 v.2.2.2.2.2.2.2)],k:=[],b:=4096 }
def href08_Read_0 (self0:Int×Int×Int×Int×Y20×Y6×Y1×Y11→Option (Y1×Y11×Int)) (v:Int×Int×Int×Int×Y20×Y6×Y1×Y11):Option (Y1×Y11×Int):=
 (bif (decide (v.2.2.2.1 < v.2.1)) then ((cref02_Read v.2.2.2.2.2.2.1).bind fun x4=>(bif (x4.2.2 != (0:Int)) then (let x5:Y1:=(([]:Y6),((0:Int),()));(some (x5,([]:List Y5),x4.2.2))) else ((cref02_Read x4.1).bind fun x6=>(bif (x6.2.2 != (0:Int)) then (let x7:Y1:=(([]:Y6),((0:Int),()));(some (x7,([]:List Y5),x6.2.2))) else (let x8:Int:=(if (1000:Int) < x4.2.1 then (1000:Int) else x4.2.1);(let x9:Int:=(IntKind.u64.wrap (v.2.2.1+x8));(let x10:Int:=(if (1000:Int) < x9 then (1000:Int) else x9);(let x11:Y5:=((IntKind.i64.wrap x10),(x6.2.1,()));(let x12:Y11:=([x11]:Y11);(bif (Nat.ble 1 2&&Nat.ble (List.length v.2.2.2.2.2.2.2+List.length x12) lim) then (let x13:Y11:=(List.append v.2.2.2.2.2.2.2 x12);(let x14:Int:=(IntKind.u64.wrap (v.2.2.2.1+(1:Int)));(self0 (v.1,v.2.1,x10,x14,v.2.2.2.2.1,v.2.2.2.2.2.1,x6.1,x13)))) else none)))))))))) else ((cref08_Fine (v.2.2.2.2.2.2.2,v.1)).bind fun x15=>(bif (!x15) then (let x16:Y1:=(([]:Y6),((0:Int),()));(some (x16,([]:List Y5),(12:Int)))) else (some (v.2.2.2.2.2.2.1,v.2.2.2.2.2.2.2,(0:Int))))))
def gref08_Read_0 (N:Nat) (self0:Int×Int×Int×Int×Y20×Y6×Y1×Y11→Option (Y1×Y11×Int)) (v:Int×Int×Int×Int×Y20×Y6×Y1×Y11):Option (Y1×Y11×Int):=href08_Read_0 self0 v
theorem kz92_0 (N:Nat) (s0:St→Option (Y1×Y11×Int)) (v):(floc (Ez92) Tz92 6 N Tryz.f137 [Z2,(.slice Z6),Z3] [false,true,false] [] 0 nowhereR) s0 (ez92_0 v)=href08_Read_0 (fun v=>s0 (ez92_0 v)) v:=by kernel_rfl
theorem bz92_0 (N:Nat) (s0:St→Option (Y1×Y11×Int)) (v):(floc (Ez92) Tz92 6 N Tryz.f137 [Z2,(.slice Z6),Z3] [false,true,false] [] 0 nowhereR) s0 (ez92_0 v)=gref08_Read_0 N (fun v=>s0 (ez92_0 v)) v:=kz92_0 N s0 v
def nref08_Read (loop0:Int×Int×Int×Int×Y20×Y6×Y1×Y11→Option (Y1×Y11×Int)) (x:Y1×Int):Option (Y1×Y11×Int):=
 ((cref02_Read x.1).bind fun x1=>(bif (x1.2.2==(0:Int)) then (bif (decide (x1.2.1 > (IntKind.u64.wrap x.2))) then (let x2:Y1:=(([]:Y6),((0:Int),()));(some (x2,([]:List Y5),(4:Int)))) else (bif (x1.2.2 != (0:Int)) then (let x3:Y1:=(([]:Y6),((0:Int),()));(some (x3,([]:List Y5),x1.2.2))) else (loop0 (x.2,x1.2.1,(0:Int),(0:Int),((0:Int),()),([]:List Int),x1.1,([]:List Y5))))) else (bif (x1.2.2 != (0:Int)) then (let x17:Y1:=(([]:Y6),((0:Int),()));(some (x17,([]:List Y5),x1.2.2))) else (loop0 (x.2,x1.2.1,(0:Int),(0:Int),((0:Int),()),([]:List Int),x1.1,([]:List Y5))))))
def mref08_Read (N:Nat) (x:Y1×Int):Option (Y1×Y11×Int):=nref08_Read (iterV (gref08_Read_0 N) N) x
theorem jz92 (N:Nat) (x:Y1×Int):rise (Ez92) Tz92 6 N Tryz.f137 [Z2,Z3] [Z2,(.slice Z6),Z3] [false,true,false] x=nref08_Read (fun v=>iterR (floc (Ez92) Tz92 6 N Tryz.f137 [Z2,(.slice Z6),Z3] [false,true,false] [] 0 nowhereR) N (ez92_0 v)) x:=by kernel_rfl
theorem lz92 (N:Nat) (x:Y1×Int):rise (Ez92) Tz92 6 N Tryz.f137 [Z2,Z3] [Z2,(.slice Z6),Z3] [false,true,false] x=mref08_Read N x:=(jz92 N x).trans (by rw [funext (iterR_eq ez92_0 (bz92_0 N) N)];rfl)
def cref08_Read (x:Y1×Int):Option (Y1×Y11×Int):=mref08_Read big x
def Gz92:Fn2:=⟨[Z2,Z3],[Z2,(.slice Z6),Z3],[false,true,false],fun x=>cref08_Read x⟩
theorem Lz92:Rises Tryz.prog 137 Gz92:=rises_of (E:=Ez92) ⟨tabOk,(fsCons2 Lz91 (fsCons2 Lz75 fsNil2)),fun _ _ _=>rfl,mixed,inlNil,rcsNil,owsNil⟩ Tryz.func137 rfl (by decide) (by kernel_rfl) (by kernel_rfl) (by kernel_rfl) (by kernel_rfl) (fun x r _ h=>⟨Tz92,6,big,(lz92 big x).trans h⟩)
def Tz93:LT:={ live:=[],keep:=[] }
noncomputable def Ez93:Env2:={ tab:=tab,fs:=[(110,Gz73),(137,Gz92)],inl:=[] }
def nref08_Decode (x:Y1×Int):Option (Y1×Y11×Int):=
 ((cref02_Check x.1).bind fun x1=>(bif (x1 != (0:Int)) then (let x2:Y1:=(([]:Y6),((0:Int),()));(some (x2,([]:List Y5),(8:Int)))) else (bif (decide (x.2 < (1:Int))) then (let x3:Y1:=(([]:Y6),((0:Int),()));(some (x3,([]:List Y5),(2:Int)))) else (bif (decide (x.2 > (200:Int))) then (let x4:Y1:=(([]:Y6),((0:Int),()));(some (x4,([]:List Y5),(2:Int)))) else ((cref08_Read (x.1,x.2)).bind fun x5=>(some (x5.1,x5.2.1,x5.2.2)))))))
def mref08_Decode (N:Nat) (x:Y1×Int):Option (Y1×Y11×Int):=nref08_Decode x
theorem jz93 (N:Nat) (x:Y1×Int):rise (Ez93) Tz93 6 N Tryz.f115 [Z2,Z3] [Z2,(.slice Z6),Z3] [false,true,false] x=nref08_Decode x:=by kernel_rfl
theorem lz93 (N:Nat) (x:Y1×Int):rise (Ez93) Tz93 6 N Tryz.f115 [Z2,Z3] [Z2,(.slice Z6),Z3] [false,true,false] x=mref08_Decode N x:=(jz93 N x).trans rfl
def cref08_Decode (x:Y1×Int):Option (Y1×Y11×Int):=mref08_Decode big x
def Gz93:Fn2:=⟨[Z2,Z3],[Z2,(.slice Z6),Z3],[false,true,false],fun x=>cref08_Decode x⟩
theorem Lz93:Rises Tryz.prog 115 Gz93:=rises_of (E:=Ez93) ⟨tabOk,(fsCons2 Lz73 (fsCons2 Lz92 fsNil2)),fun _ _ _=>rfl,mixed,inlNil,rcsNil,owsNil⟩ Tryz.func115 rfl (by decide) (by kernel_rfl) (by kernel_rfl) (by kernel_rfl) (by kernel_rfl) (fun x r _ h=>⟨Tz93,6,big,(lz93 big x).trans h⟩)
def Tz94:LT:={ live:=[],keep:=[] }
def Tz95:LT:={ live:=[(7,[0,2,3,4,5])],keep:=[] }
def Tz96:LT:={ live:=[],keep:=[] }
noncomputable def Ez96:Env2:={ tab:=tab,fs:=[],inl:=[] }
def nref04_Letter (x:Int):Option (Bool):=
 (bif (decide (x≥(97:Int))) then (bif (decide (x≤(122:Int))) then (some true) else (bif (decide (x≥(65:Int))) then (some (decide (x≤(90:Int)))) else (some false))) else (bif (decide (x≥(65:Int))) then (some (decide (x≤(90:Int)))) else (some false)))
def mref04_Letter (N:Nat) (x:Int):Option (Bool):=nref04_Letter x
theorem jz96 (N:Nat) (x:Int):rise (Ez96) Tz96 6 N Tryz.f134 [Z13] [.bool] [false] x=nref04_Letter x:=by kernel_rfl
theorem lz96 (N:Nat) (x:Int):rise (Ez96) Tz96 6 N Tryz.f134 [Z13] [.bool] [false] x=mref04_Letter N x:=(jz96 N x).trans rfl
def cref04_Letter (x:Int):Option (Bool):=mref04_Letter big x
def Gz96:Fn2:=⟨[Z13],[.bool],[false],fun x=>cref04_Letter x⟩
theorem Lz96:Rises Tryz.prog 134 Gz96:=rises_of (E:=Ez96) ⟨tabOk,fsNil2,fun _ _ _=>rfl,mixed,inlNil,rcsNil,owsNil⟩ Tryz.func134 rfl (by decide) (by kernel_rfl) (by kernel_rfl) (by kernel_rfl) (by kernel_rfl) (fun x r _ h=>⟨Tz96,6,big,(lz96 big x).trans h⟩)
def Tz97:LT:={ live:=[(4,[0,3])],keep:=[] }
noncomputable def Ez97:Env2:={ tab:=tab,fs:=[(134,Gz96)],inl:=[] }
noncomputable def ez97_0 (v:Y6×Int):St:={ s:=[(0,(.val ⟨.str,v.1⟩)),(3,(.val ⟨Z3,v.2⟩))],l:=[],k:=[],b:=4096 }
def href04_Named_0 (self0:Y6×Int→Option (Bool)) (v:Y6×Int):Option (Bool):=
 (bif (decide (v.2 < (List.length v.1:Int))) then ((getI v.1 v.2).bind fun x3=>((cref04_Letter x3).bind fun x4=>(bif (!x4) then ((getI v.1 v.2).bind fun x5=>(bif (decide (x5 < (48:Int))) then (some false) else ((getI v.1 v.2).bind fun x6=>(bif (decide (x6 > (57:Int))) then (some false) else (let x7:Int:=(IntKind.i64.wrap (v.2+(1:Int)));(self0 (v.1,x7))))))) else (let x8:Int:=(IntKind.i64.wrap (v.2+(1:Int)));(self0 (v.1,x8)))))) else (some true))
def gref04_Named_0 (N:Nat) (self0:Y6×Int→Option (Bool)) (v:Y6×Int):Option (Bool):=href04_Named_0 self0 v
theorem kz97_0 (N:Nat) (s0:St→Option (Bool)) (v):(floc (Ez97) Tz97 6 N Tryz.f106 [.bool] [false] [] 0 nowhereR) s0 (ez97_0 v)=href04_Named_0 (fun v=>s0 (ez97_0 v)) v:=by kernel_rfl
theorem bz97_0 (N:Nat) (s0:St→Option (Bool)) (v):(floc (Ez97) Tz97 6 N Tryz.f106 [.bool] [false] [] 0 nowhereR) s0 (ez97_0 v)=gref04_Named_0 N (fun v=>s0 (ez97_0 v)) v:=kz97_0 N s0 v
def nref04_Named (loop0:Y6×Int→Option (Bool)) (x:Y6):Option (Bool):=
 (bif (decide ((List.length x:Int) < (1:Int))) then (some false) else (bif (decide ((List.length x:Int) > (16:Int))) then (some false) else ((getI x (0:Int)).bind fun x1=>((cref04_Letter x1).bind fun x2=>(bif (!x2) then (some false) else (loop0 (x,(0:Int))))))))
def mref04_Named (N:Nat) (x:Y6):Option (Bool):=nref04_Named (iterV (gref04_Named_0 N) N) x
theorem jz97 (N:Nat) (x:Y6):rise (Ez97) Tz97 6 N Tryz.f106 [.str] [.bool] [false] x=nref04_Named (fun v=>iterR (floc (Ez97) Tz97 6 N Tryz.f106 [.bool] [false] [] 0 nowhereR) N (ez97_0 v)) x:=by kernel_rfl
theorem lz97 (N:Nat) (x:Y6):rise (Ez97) Tz97 6 N Tryz.f106 [.str] [.bool] [false] x=mref04_Named N x:=(jz97 N x).trans (by rw [funext (iterR_eq ez97_0 (bz97_0 N) N)];rfl)
def cref04_Named (x:Y6):Option (Bool):=mref04_Named big x
def Gz97:Fn2:=⟨[.str],[.bool],[false],fun x=>cref04_Named x⟩
theorem Lz97:Rises Tryz.prog 106 Gz97:=rises_of (E:=Ez97) ⟨tabOk,(fsCons2 Lz96 fsNil2),fun _ _ _=>rfl,mixed,inlNil,rcsNil,owsNil⟩ Tryz.func106 rfl (by decide) (by kernel_rfl) (by kernel_rfl) (by kernel_rfl) (by kernel_rfl) (fun x r _ h=>⟨Tz97,6,big,(lz97 big x).trans h⟩)
def Tz98:LT:={ live:=[(4,[0,5]),(9,[0,5,6])],keep:=[] }
noncomputable def Ez98:Env2:={ tab:=tab,fs:=[(106,Gz97)],inl:=[] }
noncomputable def ez98_1 (v:Y12×Int×Int):St:={ s:=[(0,(.val ⟨(.slice Z8),v.1⟩)),(5,(.val ⟨Z3,v.2.1⟩)),(6,(.val ⟨Z3,v.2.2⟩))],l:=[],k:=[],b:=4096 }
noncomputable def ez98_0 (v:Y12×Int):St:={ s:=[(0,(.val ⟨(.slice Z8),v.1⟩)),(5,(.val ⟨Z3,v.2⟩))],l:=[],k:=[],b:=4096 }
def href04_Fields_1 (self0:Y12×Int→Option (Bool)) (self1:Y12×Int×Int→Option (Bool)) (v:Y12×Int×Int):Option (Bool):=
 (bif (decide (v.2.2 < v.2.1)) then ((getI v.1 v.2.2).bind fun x3=>((getI v.1 v.2.1).bind fun x4=>(bif (eqD .str x3.1 x4.1) then (some false) else (let x5:Int:=(IntKind.i64.wrap (v.2.2+(1:Int)));(self1 (v.1,v.2.1,x5)))))) else (let x6:Int:=(IntKind.i64.wrap (v.2.1+(1:Int)));(self0 (v.1,x6))))
def gref04_Fields_1 (N:Nat) (self0:Y12×Int→Option (Bool)) (self1:Y12×Int×Int→Option (Bool)) (v:Y12×Int×Int):Option (Bool):=href04_Fields_1 self0 self1 v
theorem kz98_1 (N:Nat) (s0:St→Option (Bool)) (s1:St→Option (Bool)) (v):(floc (Ez98) Tz98 6 N Tryz.f107 [.bool] [false] [] 1 (outerR s0 nowhereR)) s1 (ez98_1 v)=href04_Fields_1 (fun v=>s0 (ez98_0 v)) (fun v=>s1 (ez98_1 v)) v:=by kernel_rfl
theorem bz98_1 (N:Nat) (s0:St→Option (Bool)) (s1:St→Option (Bool)) (v):(floc (Ez98) Tz98 6 N Tryz.f107 [.bool] [false] [] 1 (outerR s0 nowhereR)) s1 (ez98_1 v)=gref04_Fields_1 N (fun v=>s0 (ez98_0 v)) (fun v=>s1 (ez98_1 v)) v:=kz98_1 N s0 s1 v
def href04_Fields_0 (loop1:Y12×Int×Int→Option (Bool)) (self0:Y12×Int→Option (Bool)) (v:Y12×Int):Option (Bool):=
 (bif (decide (v.2 < (List.length v.1:Int))) then ((getI v.1 v.2).bind fun x1=>((cref04_Named x1.1).bind fun x2=>(bif (!x2) then (some false) else (loop1 (v.1,v.2,(0:Int)))))) else (some true))
def gref04_Fields_0 (N:Nat) (self0:Y12×Int→Option (Bool)) (v:Y12×Int):Option (Bool):=href04_Fields_0 (iterV (gref04_Fields_1 N self0) N) self0 v
theorem kz98_0 (N:Nat) (s0:St→Option (Bool)) (v):(floc (Ez98) Tz98 6 N Tryz.f107 [.bool] [false] [] 0 nowhereR) s0 (ez98_0 v)=href04_Fields_0 (fun v=>iterR (floc (Ez98) Tz98 6 N Tryz.f107 [.bool] [false] [] 1 (outerR s0 nowhereR)) N (ez98_1 v)) (fun v=>s0 (ez98_0 v)) v:=by kernel_rfl
theorem bz98_0 (N:Nat) (s0:St→Option (Bool)) (v):(floc (Ez98) Tz98 6 N Tryz.f107 [.bool] [false] [] 0 nowhereR) s0 (ez98_0 v)=gref04_Fields_0 N (fun v=>s0 (ez98_0 v)) v:=(kz98_0 N s0 v).trans (by rw [funext (iterR_eq ez98_1 (bz98_1 N s0) N)];rfl)
def nref04_Fields (loop0:Y12×Int→Option (Bool)) (x:Y12×Int):Option (Bool):=
 (bif (decide ((List.length x.1:Int) > x.2)) then (some false) else (loop0 (x.1,(0:Int))))
def mref04_Fields (N:Nat) (x:Y12×Int):Option (Bool):=nref04_Fields (iterV (gref04_Fields_0 N) N) x
theorem jz98 (N:Nat) (x:Y12×Int):rise (Ez98) Tz98 6 N Tryz.f107 [(.slice Z8),Z3] [.bool] [false] x=nref04_Fields (fun v=>iterR (floc (Ez98) Tz98 6 N Tryz.f107 [.bool] [false] [] 0 nowhereR) N (ez98_0 v)) x:=by kernel_rfl
theorem lz98 (N:Nat) (x:Y12×Int):rise (Ez98) Tz98 6 N Tryz.f107 [(.slice Z8),Z3] [.bool] [false] x=mref04_Fields N x:=(jz98 N x).trans (by rw [funext (iterR_eq ez98_0 (bz98_0 N) N)];rfl)
def cref04_Fields (x:Y12×Int):Option (Bool):=mref04_Fields big x
def Gz98:Fn2:=⟨[(.slice Z8),Z3],[.bool],[false],fun x=>cref04_Fields x⟩
theorem Lz98:Rises Tryz.prog 107 Gz98:=rises_of (E:=Ez98) ⟨tabOk,(fsCons2 Lz97 fsNil2),fun _ _ _=>rfl,mixed,inlNil,rcsNil,owsNil⟩ Tryz.func107 rfl (by decide) (by kernel_rfl) (by kernel_rfl) (by kernel_rfl) (by kernel_rfl) (fun x r _ h=>⟨Tz98,6,big,(lz98 big x).trans h⟩)
def Tz99:LT:={ live:=[(14,[1,5,6])],keep:=[] }
noncomputable def Ez99:Env2:={ tab:=tab,fs:=[(107,Gz98)],inl:=[] }
noncomputable def ez99_0 (v:Int×Int×Y7):St:={ s:=[(1,(.val ⟨Z3,v.1⟩)),(5,(.loc 0 [])),(6,(.val ⟨Z3,v.2.1⟩))],l:=[(0,.var Z1 (.val ⟨Z1,v.2.2⟩))],k:=[],b:=4096 }
def href04_fine_0 (self0:Int×Int×Y7→Option (Bool)) (v:Int×Int×Y7):Option (Bool):=
 (bif (decide (v.2.1 < (List.length v.2.2.2.2.2.1:Int))) then ((getI v.2.2.2.2.2.1 v.2.1).bind fun x2=>(bif (decide (x2.2.1 < (0:Int))) then (some false) else ((getI v.2.2.2.2.2.1 v.2.1).bind fun x3=>(bif (decide (x3.2.1≥v.1)) then (some false) else (let x4:Int:=(IntKind.i64.wrap (v.2.1+(1:Int)));(self0 (v.1,x4,v.2.2))))))) else (bif (v.2.2.2.1==(0:Int)) then (bif (v.2.2.2.2.1==(0:Int)) then (bif (decide ((List.length v.2.2.2.2.2.1:Int) > (0:Int))) then ((cref04_Fields (v.2.2.2.2.2.1,(8:Int))).bind fun x5=>(some x5)) else (some false)) else (some false)) else (some false)))
def gref04_fine_0 (N:Nat) (self0:Int×Int×Y7→Option (Bool)) (v:Int×Int×Y7):Option (Bool):=href04_fine_0 self0 v
theorem kz99_0 (N:Nat) (s0:St→Option (Bool)) (v):(floc (Ez99) Tz99 6 N Tryz.f103 [.bool] [false] [] 0 nowhereR) s0 (ez99_0 v)=href04_fine_0 (fun v=>s0 (ez99_0 v)) v:=by kernel_rfl
theorem bz99_0 (N:Nat) (s0:St→Option (Bool)) (v):(floc (Ez99) Tz99 6 N Tryz.f103 [.bool] [false] [] 0 nowhereR) s0 (ez99_0 v)=gref04_fine_0 N (fun v=>s0 (ez99_0 v)) v:=kz99_0 N s0 v
def nref04_fine (loop0:Int×Int×Y7→Option (Bool)) (x:Y2×Int):Option (Bool):=
 ((getI x.1 x.2).bind fun x1=>(bif (x1.1==(1:Int)) then (bif (x1.1==(1:Int)) then (bif (x1.2.1==(0:Int)) then (bif (x1.2.2.1==(0:Int)) then (some ((List.length x1.2.2.2.1:Int)==(0:Int))) else (some false)) else (some false)) else (bif (x1.1==(4:Int)) then (bif (x1.1==(4:Int)) then (bif (decide (x1.2.1≥(0:Int))) then (bif (decide (x1.2.1 < (List.length x.1:Int))) then (bif (x1.2.2.1==(0:Int)) then (some ((List.length x1.2.2.2.1:Int)==(0:Int))) else (some false)) else (some false)) else (some false)) else (bif (x1.1==(6:Int)) then (bif (decide (x1.2.1≥(0:Int))) then (bif (decide (x1.2.1 < x.2)) then (bif (decide (x1.2.2.1≥(1:Int))) then (bif (decide (x1.2.2.1≤(16:Int))) then (some ((List.length x1.2.2.2.1:Int)==(0:Int))) else (some false)) else (some false)) else (some false)) else (some false)) else (bif (x1.1==(5:Int)) then (loop0 (x.2,(0:Int),x1)) else (some false)))) else (bif (x1.1==(7:Int)) then (bif (decide (x1.2.1≥(0:Int))) then (bif (decide (x1.2.1 < (List.length x.1:Int))) then (bif (x1.2.2.1==(0:Int)) then (some ((List.length x1.2.2.2.1:Int)==(0:Int))) else (some false)) else (some false)) else (some false)) else (bif (x1.1==(6:Int)) then (bif (decide (x1.2.1≥(0:Int))) then (bif (decide (x1.2.1 < x.2)) then (bif (decide (x1.2.2.1≥(1:Int))) then (bif (decide (x1.2.2.1≤(16:Int))) then (some ((List.length x1.2.2.2.1:Int)==(0:Int))) else (some false)) else (some false)) else (some false)) else (some false)) else (bif (x1.1==(5:Int)) then (loop0 (x.2,(0:Int),x1)) else (some false)))))) else (bif (x1.1==(2:Int)) then (bif (x1.1==(2:Int)) then (bif (x1.2.1==(0:Int)) then (bif (x1.2.2.1==(0:Int)) then (some ((List.length x1.2.2.2.1:Int)==(0:Int))) else (some false)) else (some false)) else (bif (x1.1==(4:Int)) then (bif (x1.1==(4:Int)) then (bif (decide (x1.2.1≥(0:Int))) then (bif (decide (x1.2.1 < (List.length x.1:Int))) then (bif (x1.2.2.1==(0:Int)) then (some ((List.length x1.2.2.2.1:Int)==(0:Int))) else (some false)) else (some false)) else (some false)) else (bif (x1.1==(6:Int)) then (bif (decide (x1.2.1≥(0:Int))) then (bif (decide (x1.2.1 < x.2)) then (bif (decide (x1.2.2.1≥(1:Int))) then (bif (decide (x1.2.2.1≤(16:Int))) then (some ((List.length x1.2.2.2.1:Int)==(0:Int))) else (some false)) else (some false)) else (some false)) else (some false)) else (bif (x1.1==(5:Int)) then (loop0 (x.2,(0:Int),x1)) else (some false)))) else (bif (x1.1==(7:Int)) then (bif (decide (x1.2.1≥(0:Int))) then (bif (decide (x1.2.1 < (List.length x.1:Int))) then (bif (x1.2.2.1==(0:Int)) then (some ((List.length x1.2.2.2.1:Int)==(0:Int))) else (some false)) else (some false)) else (some false)) else (bif (x1.1==(6:Int)) then (bif (decide (x1.2.1≥(0:Int))) then (bif (decide (x1.2.1 < x.2)) then (bif (decide (x1.2.2.1≥(1:Int))) then (bif (decide (x1.2.2.1≤(16:Int))) then (some ((List.length x1.2.2.2.1:Int)==(0:Int))) else (some false)) else (some false)) else (some false)) else (some false)) else (bif (x1.1==(5:Int)) then (loop0 (x.2,(0:Int),x1)) else (some false)))))) else (bif (x1.1==(3:Int)) then (bif (x1.2.1==(0:Int)) then (bif (x1.2.2.1==(0:Int)) then (some ((List.length x1.2.2.2.1:Int)==(0:Int))) else (some false)) else (some false)) else (bif (x1.1==(4:Int)) then (bif (x1.1==(4:Int)) then (bif (decide (x1.2.1≥(0:Int))) then (bif (decide (x1.2.1 < (List.length x.1:Int))) then (bif (x1.2.2.1==(0:Int)) then (some ((List.length x1.2.2.2.1:Int)==(0:Int))) else (some false)) else (some false)) else (some false)) else (bif (x1.1==(6:Int)) then (bif (decide (x1.2.1≥(0:Int))) then (bif (decide (x1.2.1 < x.2)) then (bif (decide (x1.2.2.1≥(1:Int))) then (bif (decide (x1.2.2.1≤(16:Int))) then (some ((List.length x1.2.2.2.1:Int)==(0:Int))) else (some false)) else (some false)) else (some false)) else (some false)) else (bif (x1.1==(5:Int)) then (loop0 (x.2,(0:Int),x1)) else (some false)))) else (bif (x1.1==(7:Int)) then (bif (decide (x1.2.1≥(0:Int))) then (bif (decide (x1.2.1 < (List.length x.1:Int))) then (bif (x1.2.2.1==(0:Int)) then (some ((List.length x1.2.2.2.1:Int)==(0:Int))) else (some false)) else (some false)) else (some false)) else (bif (x1.1==(6:Int)) then (bif (decide (x1.2.1≥(0:Int))) then (bif (decide (x1.2.1 < x.2)) then (bif (decide (x1.2.2.1≥(1:Int))) then (bif (decide (x1.2.2.1≤(16:Int))) then (some ((List.length x1.2.2.2.1:Int)==(0:Int))) else (some false)) else (some false)) else (some false)) else (some false)) else (bif (x1.1==(5:Int)) then (loop0 (x.2,(0:Int),x1)) else (some false)))))))))
def mref04_fine (N:Nat) (x:Y2×Int):Option (Bool):=nref04_fine (iterV (gref04_fine_0 N) N) x
theorem jz99 (N:Nat) (x:Y2×Int):rise (Ez99) Tz99 6 N Tryz.f103 [Z12,Z3] [.bool] [false] x=nref04_fine (fun v=>iterR (floc (Ez99) Tz99 6 N Tryz.f103 [.bool] [false] [] 0 nowhereR) N (ez99_0 v)) x:=by kernel_rfl
theorem lz99 (N:Nat) (x:Y2×Int):rise (Ez99) Tz99 6 N Tryz.f103 [Z12,Z3] [.bool] [false] x=mref04_fine N x:=(jz99 N x).trans (by rw [funext (iterR_eq ez99_0 (bz99_0 N) N)];rfl)
def cref04_fine (x:Y2×Int):Option (Bool):=mref04_fine big x
def Gz99:Fn2:=⟨[Z12,Z3],[.bool],[false],fun x=>cref04_fine x⟩
theorem Lz99:Rises Tryz.prog 103 Gz99:=rises_of (E:=Ez99) ⟨tabOk,(fsCons2 Lz98 fsNil2),fun _ _ _=>rfl,mixed,inlNil,rcsNil,owsNil⟩ Tryz.func103 rfl (by decide) (by kernel_rfl) (by kernel_rfl) (by kernel_rfl) (by kernel_rfl) (fun x r _ h=>⟨Tz99,6,big,(lz99 big x).trans h⟩)
def Tz100:LT:={ live:=[(5,[1,3,4])],keep:=[] }
noncomputable def Ez100:Env2:={ tab:=tab,fs:=[],inl:=[] }
noncomputable def ez100_0 (v:Int×Y7×Y6):St:={ s:=[(1,(.loc 0 [])),(3,(.row 1)),(4,(.val ⟨Z3,v.1⟩))],l:=[(0,.var Z1 (.val ⟨Z1,v.2.1⟩)),(1,.row Z3 v.2.2)],k:=[],b:=4096 }
def href04_Parts_0 (self0:Int×Y7×Y6→Option (Y6)) (v:Int×Y7×Y6):Option (Y6):=
 (bif (decide (v.1 < (List.length v.2.1.2.2.2.1:Int))) then ((getI v.2.1.2.2.2.1 v.1).bind fun x2=>(bif (Nat.ble 1 1&&Nat.ble (List.length v.2.2+List.length ([x2.2.1]:Y6)) lim) then (let x3:Y6:=(List.append v.2.2 ([x2.2.1]:Y6));(let x4:Int:=(IntKind.i64.wrap (v.1+(1:Int)));(self0 (x4,v.2.1,x3)))) else none)) else (some v.2.2))
def gref04_Parts_0 (N:Nat) (self0:Int×Y7×Y6→Option (Y6)) (v:Int×Y7×Y6):Option (Y6):=href04_Parts_0 self0 v
theorem kz100_0 (N:Nat) (s0:St→Option (Y6)) (v):(floc (Ez100) Tz100 6 N Tryz.f132 [Z11] [true] [] 0 nowhereR) s0 (ez100_0 v)=href04_Parts_0 (fun v=>s0 (ez100_0 v)) v:=by kernel_rfl
theorem bz100_0 (N:Nat) (s0:St→Option (Y6)) (v):(floc (Ez100) Tz100 6 N Tryz.f132 [Z11] [true] [] 0 nowhereR) s0 (ez100_0 v)=gref04_Parts_0 N (fun v=>s0 (ez100_0 v)) v:=kz100_0 N s0 v
def nref04_Parts (loop0:Int×Y7×Y6→Option (Y6)) (x:Y7):Option (Y6):=
 (bif (x.1==(6:Int)) then (bif (Nat.ble 1 1&&Nat.ble (List.length ([]:List Int)+List.length ([x.2.1]:Y6)) lim) then (let x1:Y6:=(List.append ([]:List Int) ([x.2.1]:Y6));(loop0 ((0:Int),x,x1))) else none) else (loop0 ((0:Int),x,([]:List Int))))
def mref04_Parts (N:Nat) (x:Y7):Option (Y6):=nref04_Parts (iterV (gref04_Parts_0 N) N) x
theorem jz100 (N:Nat) (x:Y7):rise (Ez100) Tz100 6 N Tryz.f132 [Z1] [Z11] [true] x=nref04_Parts (fun v=>iterR (floc (Ez100) Tz100 6 N Tryz.f132 [Z11] [true] [] 0 nowhereR) N (ez100_0 v)) x:=by kernel_rfl
theorem lz100 (N:Nat) (x:Y7):rise (Ez100) Tz100 6 N Tryz.f132 [Z1] [Z11] [true] x=mref04_Parts N x:=(jz100 N x).trans (by rw [funext (iterR_eq ez100_0 (bz100_0 N) N)];rfl)
def cref04_Parts (x:Y7):Option (Y6):=mref04_Parts big x
def Gz100:Fn2:=⟨[Z1],[Z11],[true],fun x=>cref04_Parts x⟩
theorem Lz100:Rises Tryz.prog 132 Gz100:=rises_of (E:=Ez100) ⟨tabOk,fsNil2,fun _ _ _=>rfl,mixed,inlNil,rcsNil,owsNil⟩ Tryz.func132 rfl (by decide) (by kernel_rfl) (by kernel_rfl) (by kernel_rfl) (by kernel_rfl) (fun x r _ h=>⟨Tz100,6,big,(lz100 big x).trans h⟩)
def Tz101:LT:={ live:=[(6,[0,1,5,6,7]),(10,[0,1,5,6,7,8,9,10])],keep:=[] }
noncomputable def Ez101 (me:Y2×Int→Option (Y6)):Env2:={ tab:=tab,fs:=[(132,Gz100),(104,⟨[Z12,Z3],[Z11],[true],fun x=>me x⟩)],inl:=[] }
noncomputable def ez101_1 (v:Y2×Int×Int×Int×Int×Y6×Y6×Y6):St:={ s:=[(0,(.val ⟨Z12,v.1⟩)),(1,(.val ⟨Z3,v.2.1⟩)),(5,(.row 0)),(6,(.row 1)),(7,(.val ⟨Z3,v.2.2.1⟩)),(8,(.val ⟨Z3,v.2.2.2.1⟩)),(9,(.row 2)),(10,(.val ⟨Z3,v.2.2.2.2.1⟩))],l:=[(0,.row Z3 v.2.2.2.2.2.1),(1,.row Z3 v.2.2.2.2.2.2.1),(2,.row Z3 v.2.2.2.2.2.2.2)],k:=[],b:=4096 }
noncomputable def ez101_0 (v:Y2×Int×Int×Y6×Y6):St:={ s:=[(0,(.val ⟨Z12,v.1⟩)),(1,(.val ⟨Z3,v.2.1⟩)),(5,(.row 0)),(6,(.row 1)),(7,(.val ⟨Z3,v.2.2.1⟩))],l:=[(0,.row Z3 v.2.2.2.1),(1,.row Z3 v.2.2.2.2)],k:=[],b:=4096 }
def href04_Widths_1 (me:Y2×Int→Option (Y6)) (self0:Y2×Int×Int×Y6×Y6→Option (Y6)) (self1:Y2×Int×Int×Int×Int×Y6×Y6×Y6→Option (Y6)) (v:Y2×Int×Int×Int×Int×Y6×Y6×Y6):Option (Y6):=
 (bif (decide (v.2.2.2.2.1 < (List.length v.2.2.2.2.2.2.2:Int))) then ((getI v.1 v.2.2.1).bind fun x5=>(bif (x5.1==(6:Int)) then ((getI v.1 v.2.2.1).bind fun x6=>(bif (decide (0≤v.2.2.2.2.1)&&decide (v.2.2.2.2.1 < (List.length v.2.2.2.2.2.2.2:Int))) then ((nth v.2.2.2.2.2.2.2 (Int.toNat v.2.2.2.2.1)).bind fun x7=>(bif (decide (0≤x7)&&decide (x7 < (List.length v.2.2.2.2.2.2.1:Int))) then ((nth v.2.2.2.2.2.2.1 (Int.toNat x7)).bind fun x8=>(let x9:Int:=(IntKind.i64.wrap (x6.2.2.1 * x8));(let x10:Int:=(IntKind.i64.wrap (v.2.2.2.1+x9));(let x11:Int:=(if (5001:Int) < x10 then (5001:Int) else x10);(let x12:Int:=(IntKind.i64.wrap (v.2.2.2.2.1+(1:Int)));(self1 (v.1,v.2.1,v.2.2.1,x11,x12,v.2.2.2.2.2.1,v.2.2.2.2.2.2.1,v.2.2.2.2.2.2.2))))))) else none)) else none)) else (bif (decide (0≤v.2.2.2.2.1)&&decide (v.2.2.2.2.1 < (List.length v.2.2.2.2.2.2.2:Int))) then ((nth v.2.2.2.2.2.2.2 (Int.toNat v.2.2.2.2.1)).bind fun x13=>(bif (decide (0≤x13)&&decide (x13 < (List.length v.2.2.2.2.2.2.1:Int))) then ((nth v.2.2.2.2.2.2.1 (Int.toNat x13)).bind fun x14=>(let x15:Int:=(IntKind.i64.wrap ((1:Int) * x14));(let x16:Int:=(IntKind.i64.wrap (v.2.2.2.1+x15));(let x17:Int:=(if (5001:Int) < x16 then (5001:Int) else x16);(let x18:Int:=(IntKind.i64.wrap (v.2.2.2.2.1+(1:Int)));(self1 (v.1,v.2.1,v.2.2.1,x17,x18,v.2.2.2.2.2.1,v.2.2.2.2.2.2.1,v.2.2.2.2.2.2.2))))))) else none)) else none))) else (bif (decide (v.2.1 > (0:Int))) then ((getI v.1 v.2.2.1).bind fun x19=>(bif (x19.1==(4:Int)) then ((getI v.1 v.2.2.1).bind fun x20=>(bif (decide (0≤x20.2.1)&&decide (x20.2.1 < (List.length v.2.2.2.2.2.1:Int))) then ((nth v.2.2.2.2.2.1 (Int.toNat x20.2.1)).bind fun x21=>(let x22:Int:=(IntKind.i64.wrap (v.2.2.2.1+x21));(let x23:Int:=(if (5001:Int) < x22 then (5001:Int) else x22);(bif (decide (v.2.1 > (0:Int))) then ((getI v.1 v.2.2.1).bind fun x24=>(bif (x24.1==(7:Int)) then ((getI v.1 v.2.2.1).bind fun x25=>(bif (decide (0≤x25.2.1)&&decide (x25.2.1 < (List.length v.2.2.2.2.2.1:Int))) then ((nth v.2.2.2.2.2.1 (Int.toNat x25.2.1)).bind fun x26=>(let x27:Int:=(IntKind.i64.wrap ((16:Int) * x26));(let x28:Int:=(IntKind.i64.wrap (x23+x27));(let x29:Int:=(if (5001:Int) < x28 then (5001:Int) else x28);(bif (Nat.ble 1 1&&Nat.ble (List.length v.2.2.2.2.2.2.1+List.length ([x29]:Y6)) lim) then (let x30:Y6:=(List.append v.2.2.2.2.2.2.1 ([x29]:Y6));(let x31:Int:=(IntKind.i64.wrap (v.2.2.1+(1:Int)));(self0 (v.1,v.2.1,x31,v.2.2.2.2.2.1,x30)))) else none))))) else none)) else (bif (Nat.ble 1 1&&Nat.ble (List.length v.2.2.2.2.2.2.1+List.length ([x23]:Y6)) lim) then (let x32:Y6:=(List.append v.2.2.2.2.2.2.1 ([x23]:Y6));(let x33:Int:=(IntKind.i64.wrap (v.2.2.1+(1:Int)));(self0 (v.1,v.2.1,x33,v.2.2.2.2.2.1,x32)))) else none))) else (bif (Nat.ble 1 1&&Nat.ble (List.length v.2.2.2.2.2.2.1+List.length ([x23]:Y6)) lim) then (let x34:Y6:=(List.append v.2.2.2.2.2.2.1 ([x23]:Y6));(let x35:Int:=(IntKind.i64.wrap (v.2.2.1+(1:Int)));(self0 (v.1,v.2.1,x35,v.2.2.2.2.2.1,x34)))) else none))))) else none)) else (bif (decide (v.2.1 > (0:Int))) then ((getI v.1 v.2.2.1).bind fun x36=>(bif (x36.1==(7:Int)) then ((getI v.1 v.2.2.1).bind fun x37=>(bif (decide (0≤x37.2.1)&&decide (x37.2.1 < (List.length v.2.2.2.2.2.1:Int))) then ((nth v.2.2.2.2.2.1 (Int.toNat x37.2.1)).bind fun x38=>(let x39:Int:=(IntKind.i64.wrap ((16:Int) * x38));(let x40:Int:=(IntKind.i64.wrap (v.2.2.2.1+x39));(let x41:Int:=(if (5001:Int) < x40 then (5001:Int) else x40);(bif (Nat.ble 1 1&&Nat.ble (List.length v.2.2.2.2.2.2.1+List.length ([x41]:Y6)) lim) then (let x42:Y6:=(List.append v.2.2.2.2.2.2.1 ([x41]:Y6));(let x43:Int:=(IntKind.i64.wrap (v.2.2.1+(1:Int)));(self0 (v.1,v.2.1,x43,v.2.2.2.2.2.1,x42)))) else none))))) else none)) else (let x44:Y6:=([v.2.2.2.1]:Y6);(bif (Nat.ble 1 1&&Nat.ble (List.length v.2.2.2.2.2.2.1+List.length x44) lim) then (let x45:Y6:=(List.append v.2.2.2.2.2.2.1 x44);(let x46:Int:=(IntKind.i64.wrap (v.2.2.1+(1:Int)));(self0 (v.1,v.2.1,x46,v.2.2.2.2.2.1,x45)))) else none)))) else (let x47:Y6:=([v.2.2.2.1]:Y6);(bif (Nat.ble 1 1&&Nat.ble (List.length v.2.2.2.2.2.2.1+List.length x47) lim) then (let x48:Y6:=(List.append v.2.2.2.2.2.2.1 x47);(let x49:Int:=(IntKind.i64.wrap (v.2.2.1+(1:Int)));(self0 (v.1,v.2.1,x49,v.2.2.2.2.2.1,x48)))) else none))))) else (bif (decide (v.2.1 > (0:Int))) then ((getI v.1 v.2.2.1).bind fun x50=>(bif (x50.1==(7:Int)) then ((getI v.1 v.2.2.1).bind fun x51=>(bif (decide (0≤x51.2.1)&&decide (x51.2.1 < (List.length v.2.2.2.2.2.1:Int))) then ((nth v.2.2.2.2.2.1 (Int.toNat x51.2.1)).bind fun x52=>(let x53:Int:=(IntKind.i64.wrap ((16:Int) * x52));(let x54:Int:=(IntKind.i64.wrap (v.2.2.2.1+x53));(let x55:Int:=(if (5001:Int) < x54 then (5001:Int) else x54);(bif (Nat.ble 1 1&&Nat.ble (List.length v.2.2.2.2.2.2.1+List.length ([x55]:Y6)) lim) then (let x56:Y6:=(List.append v.2.2.2.2.2.2.1 ([x55]:Y6));(let x57:Int:=(IntKind.i64.wrap (v.2.2.1+(1:Int)));(self0 (v.1,v.2.1,x57,v.2.2.2.2.2.1,x56)))) else none))))) else none)) else (let x58:Y6:=([v.2.2.2.1]:Y6);(bif (Nat.ble 1 1&&Nat.ble (List.length v.2.2.2.2.2.2.1+List.length x58) lim) then (let x59:Y6:=(List.append v.2.2.2.2.2.2.1 x58);(let x60:Int:=(IntKind.i64.wrap (v.2.2.1+(1:Int)));(self0 (v.1,v.2.1,x60,v.2.2.2.2.2.1,x59)))) else none)))) else (let x61:Y6:=([v.2.2.2.1]:Y6);(bif (Nat.ble 1 1&&Nat.ble (List.length v.2.2.2.2.2.2.1+List.length x61) lim) then (let x62:Y6:=(List.append v.2.2.2.2.2.2.1 x61);(let x63:Int:=(IntKind.i64.wrap (v.2.2.1+(1:Int)));(self0 (v.1,v.2.1,x63,v.2.2.2.2.2.1,x62)))) else none)))))
def gref04_Widths_1 (me:Y2×Int→Option (Y6)) (N:Nat) (self0:Y2×Int×Int×Y6×Y6→Option (Y6)) (self1:Y2×Int×Int×Int×Int×Y6×Y6×Y6→Option (Y6)) (v:Y2×Int×Int×Int×Int×Y6×Y6×Y6):Option (Y6):=href04_Widths_1 me self0 self1 v
theorem kz101_1 (me:Y2×Int→Option (Y6)) (N:Nat) (s0:St→Option (Y6)) (s1:St→Option (Y6)) (v):(floc (Ez101 me) Tz101 6 N Tryz.f104 [Z11] [true] [] 1 (outerR s0 nowhereR)) s1 (ez101_1 v)=href04_Widths_1 me (fun v=>s0 (ez101_0 v)) (fun v=>s1 (ez101_1 v)) v:=by kernel_rfl
theorem bz101_1 (me:Y2×Int→Option (Y6)) (N:Nat) (s0:St→Option (Y6)) (s1:St→Option (Y6)) (v):(floc (Ez101 me) Tz101 6 N Tryz.f104 [Z11] [true] [] 1 (outerR s0 nowhereR)) s1 (ez101_1 v)=gref04_Widths_1 me N (fun v=>s0 (ez101_0 v)) (fun v=>s1 (ez101_1 v)) v:=kz101_1 me N s0 s1 v
def href04_Widths_0 (me:Y2×Int→Option (Y6)) (loop1:Y2×Int×Int×Int×Int×Y6×Y6×Y6→Option (Y6)) (self0:Y2×Int×Int×Y6×Y6→Option (Y6)) (v:Y2×Int×Int×Y6×Y6):Option (Y6):=
 (bif (decide (v.2.2.1 < (List.length v.1:Int))) then ((getI v.1 v.2.2.1).bind fun x3=>((cref04_Parts x3).bind fun x4=>(loop1 (v.1,v.2.1,v.2.2.1,(1:Int),(0:Int),v.2.2.2.1,v.2.2.2.2,x4)))) else (some v.2.2.2.2))
def gref04_Widths_0 (me:Y2×Int→Option (Y6)) (N:Nat) (self0:Y2×Int×Int×Y6×Y6→Option (Y6)) (v:Y2×Int×Int×Y6×Y6):Option (Y6):=href04_Widths_0 me (iterV (gref04_Widths_1 me N self0) N) self0 v
theorem kz101_0 (me:Y2×Int→Option (Y6)) (N:Nat) (s0:St→Option (Y6)) (v):(floc (Ez101 me) Tz101 6 N Tryz.f104 [Z11] [true] [] 0 nowhereR) s0 (ez101_0 v)=href04_Widths_0 me (fun v=>iterR (floc (Ez101 me) Tz101 6 N Tryz.f104 [Z11] [true] [] 1 (outerR s0 nowhereR)) N (ez101_1 v)) (fun v=>s0 (ez101_0 v)) v:=by kernel_rfl
theorem bz101_0 (me:Y2×Int→Option (Y6)) (N:Nat) (s0:St→Option (Y6)) (v):(floc (Ez101 me) Tz101 6 N Tryz.f104 [Z11] [true] [] 0 nowhereR) s0 (ez101_0 v)=gref04_Widths_0 me N (fun v=>s0 (ez101_0 v)) v:=(kz101_0 me N s0 v).trans (by rw [funext (iterR_eq ez101_1 (bz101_1 me N s0) N)];rfl)
def nref04_Widths (me:Y2×Int→Option (Y6)) (loop0:Y2×Int×Int×Y6×Y6→Option (Y6)) (x:Y2×Int):Option (Y6):=
 (bif (decide (x.2 > (0:Int))) then (let x1:Int:=(IntKind.i64.wrap (x.2 - (1:Int)));((me (x.1,x1)).bind fun x2=>(loop0 (x.1,x.2,(0:Int),x2,([]:List Int))))) else (loop0 (x.1,x.2,(0:Int),([]:List Int),([]:List Int))))
def mref04_Widths (me:Y2×Int→Option (Y6)) (N:Nat) (x:Y2×Int):Option (Y6):=nref04_Widths me (iterV (gref04_Widths_0 me N) N) x
theorem jz101 (me:Y2×Int→Option (Y6)) (N:Nat) (x:Y2×Int):rise (Ez101 me) Tz101 6 N Tryz.f104 [Z12,Z3] [Z11] [true] x=nref04_Widths me (fun v=>iterR (floc (Ez101 me) Tz101 6 N Tryz.f104 [Z11] [true] [] 0 nowhereR) N (ez101_0 v)) x:=by kernel_rfl
theorem lz101 (me:Y2×Int→Option (Y6)) (N:Nat) (x:Y2×Int):rise (Ez101 me) Tz101 6 N Tryz.f104 [Z12,Z3] [Z11] [true] x=mref04_Widths me N x:=(jz101 me N x).trans (by rw [funext (iterR_eq ez101_0 (bz101_0 me N) N)];rfl)
def rref04_Widths:Nat→Y2×Int→Option (Y6)
 | 0,_=>none
 | k+1,x=>mref04_Widths (rref04_Widths k) big x
def cref04_Widths (x:Y2×Int):Option (Y6):=rref04_Widths big x
def Gz101:Fn2:=⟨[Z12,Z3],[Z11],[true],fun x=>cref04_Widths x⟩
theorem Rz101:∀ k,Rises Tryz.prog 104 ⟨[Z12,Z3],[Z11],[true],fun x=>rref04_Widths k x⟩
 | 0=>rises_none Tryz.func104 rfl (by decide) (by kernel_rfl) (by kernel_rfl)
 | k+1=>by
  have ih:=Rz101 k
  exact rises_of (E:=Ez101 (rref04_Widths k)) ⟨tabOk,(fsCons2 Lz100 (fsCons2 ih fsNil2)),fun _ _ _=>rfl,mixed,inlNil,rcsNil,owsNil⟩ Tryz.func104 rfl (by decide) (by kernel_rfl) (by kernel_rfl) (by kernel_rfl) (by kernel_rfl) (fun x r _ h=>⟨Tz101,6,big,(lz101 (rref04_Widths k) big x).trans h⟩)
theorem Lz101:Rises Tryz.prog 104 Gz101:=Rz101 big
def Tz102:LT:={ live:=[(4,[0,3]),(10,[0,4,5])],keep:=[] }
noncomputable def Ez102:Env2:={ tab:=tab,fs:=[(103,Gz99),(104,Gz101)],inl:=[] }
noncomputable def ez102_1 (v:Y2×Int×Y6):St:={ s:=[(0,(.val ⟨Z12,v.1⟩)),(4,(.row 0)),(5,(.val ⟨Z3,v.2.1⟩))],l:=[(0,.row Z3 v.2.2)],k:=[],b:=4096 }
noncomputable def ez102_0 (v:Y2×Int):St:={ s:=[(0,(.val ⟨Z12,v.1⟩)),(3,(.val ⟨Z3,v.2⟩))],l:=[],k:=[],b:=4096 }
def href04_Check_1 (self0:Y2×Int→Option (Int)) (self1:Y2×Int×Y6→Option (Int)) (v:Y2×Int×Y6):Option (Int):=
 (bif (decide (v.2.1 < (List.length v.1:Int))) then (bif (decide (0≤v.2.1)&&decide (v.2.1 < (List.length v.2.2:Int))) then ((nth v.2.2 (Int.toNat v.2.1)).bind fun x4=>(bif (decide (x4 > (5000:Int))) then (some (8:Int)) else (let x5:Int:=(IntKind.i64.wrap (v.2.1+(1:Int)));(self1 (v.1,x5,v.2.2))))) else none) else (some (0:Int)))
def gref04_Check_1 (N:Nat) (self0:Y2×Int→Option (Int)) (self1:Y2×Int×Y6→Option (Int)) (v:Y2×Int×Y6):Option (Int):=href04_Check_1 self0 self1 v
theorem kz102_1 (N:Nat) (s0:St→Option (Int)) (s1:St→Option (Int)) (v):(floc (Ez102) Tz102 6 N Tryz.f68 [Z3] [false] [] 1 nowhereR) s1 (ez102_1 v)=href04_Check_1 (fun v=>s0 (ez102_0 v)) (fun v=>s1 (ez102_1 v)) v:=by kernel_rfl
theorem bz102_1 (N:Nat) (s0:St→Option (Int)) (s1:St→Option (Int)) (v):(floc (Ez102) Tz102 6 N Tryz.f68 [Z3] [false] [] 1 nowhereR) s1 (ez102_1 v)=gref04_Check_1 N (fun v=>s0 (ez102_0 v)) (fun v=>s1 (ez102_1 v)) v:=kz102_1 N s0 s1 v
def href04_Check_0 (loop1:Y2×Int×Y6→Option (Int)) (self0:Y2×Int→Option (Int)) (v:Y2×Int):Option (Int):=
 (bif (decide (v.2 < (List.length v.1:Int))) then ((cref04_fine (v.1,v.2)).bind fun x1=>(bif (!x1) then (some (8:Int)) else (let x2:Int:=(IntKind.i64.wrap (v.2+(1:Int)));(self0 (v.1,x2))))) else ((cref04_Widths (v.1,(3:Int))).bind fun x3=>(loop1 (v.1,(0:Int),x3))))
def gref04_Check_0 (N:Nat) (self0:Y2×Int→Option (Int)) (v:Y2×Int):Option (Int):=href04_Check_0 (iterV (gref04_Check_1 N self0) N) self0 v
theorem kz102_0 (N:Nat) (s0:St→Option (Int)) (v):(floc (Ez102) Tz102 6 N Tryz.f68 [Z3] [false] [] 0 nowhereR) s0 (ez102_0 v)=href04_Check_0 (fun v=>iterR (floc (Ez102) Tz102 6 N Tryz.f68 [Z3] [false] [] 1 nowhereR) N (ez102_1 v)) (fun v=>s0 (ez102_0 v)) v:=by kernel_rfl
theorem bz102_0 (N:Nat) (s0:St→Option (Int)) (v):(floc (Ez102) Tz102 6 N Tryz.f68 [Z3] [false] [] 0 nowhereR) s0 (ez102_0 v)=gref04_Check_0 N (fun v=>s0 (ez102_0 v)) v:=(kz102_0 N s0 v).trans (by rw [funext (iterR_eq ez102_1 (bz102_1 N s0) N)];rfl)
def nref04_Check (loop0:Y2×Int→Option (Int)) (x:Y2):Option (Int):=
 (bif (decide ((List.length x:Int) > (32:Int))) then (some (8:Int)) else (loop0 (x,(0:Int))))
def mref04_Check (N:Nat) (x:Y2):Option (Int):=nref04_Check (iterV (gref04_Check_0 N) N) x
theorem jz102 (N:Nat) (x:Y2):rise (Ez102) Tz102 6 N Tryz.f68 [Z12] [Z3] [false] x=nref04_Check (fun v=>iterR (floc (Ez102) Tz102 6 N Tryz.f68 [Z3] [false] [] 0 nowhereR) N (ez102_0 v)) x:=by kernel_rfl
theorem lz102 (N:Nat) (x:Y2):rise (Ez102) Tz102 6 N Tryz.f68 [Z12] [Z3] [false] x=mref04_Check N x:=(jz102 N x).trans (by rw [funext (iterR_eq ez102_0 (bz102_0 N) N)];rfl)
def cref04_Check (x:Y2):Option (Int):=mref04_Check big x
def Gz102:Fn2:=⟨[Z12],[Z3],[false],fun x=>cref04_Check x⟩
theorem Lz102:Rises Tryz.prog 68 Gz102:=rises_of (E:=Ez102) ⟨tabOk,(fsCons2 Lz99 (fsCons2 Lz101 fsNil2)),fun _ _ _=>rfl,mixed,inlNil,rcsNil,owsNil⟩ Tryz.func68 rfl (by decide) (by kernel_rfl) (by kernel_rfl) (by kernel_rfl) (by kernel_rfl) (fun x r _ h=>⟨Tz102,6,big,(lz102 big x).trans h⟩)
def Tz103:LT:={ live:=[],keep:=[] }
noncomputable def Ez103:Env2:={ tab:=tab,fs:=[],inl:=[] }
def nref05_up (x:Int×Int):Option (Int):=
 (let x1:Int:=(IntKind.i64.wrap (x.1+x.2));(let x2:Int:=(IntKind.i64.wrap (x1 - (1:Int)));(bif (x.2==0) then none else (let x3:Int:=(IntKind.i64.wrap (x2.tdiv x.2));(let x4:Int:=(IntKind.i64.wrap (x3 * x.2));(some x4))))))
def mref05_up (N:Nat) (x:Int×Int):Option (Int):=nref05_up x
theorem jz103 (N:Nat) (x:Int×Int):rise (Ez103) Tz103 6 N Tryz.f133 [Z3,Z3] [Z3] [false] x=nref05_up x:=by kernel_rfl
theorem lz103 (N:Nat) (x:Int×Int):rise (Ez103) Tz103 6 N Tryz.f133 [Z3,Z3] [Z3] [false] x=mref05_up N x:=(jz103 N x).trans rfl
def cref05_up (x:Int×Int):Option (Int):=mref05_up big x
def Gz103:Fn2:=⟨[Z3,Z3],[Z3],[false],fun x=>cref05_up x⟩
theorem Lz103:Rises Tryz.prog 133 Gz103:=rises_of (E:=Ez103) ⟨tabOk,fsNil2,fun _ _ _=>rfl,mixed,inlNil,rcsNil,owsNil⟩ Tryz.func133 rfl (by decide) (by kernel_rfl) (by kernel_rfl) (by kernel_rfl) (by kernel_rfl) (fun x r _ h=>⟨Tz103,6,big,(lz103 big x).trans h⟩)
def Tz104:LT:={ live:=[(4,[0,1,2,9,10,11,12])],keep:=[] }
noncomputable def Ez104:Env2:={ tab:=tab,fs:=[(133,Gz103)],inl:=[] }
noncomputable def ez104_0 (v:Y6×Y6×Y12×Int×Int×Int×Y6):St:={ s:=[(0,(.val ⟨Z11,v.1⟩)),(1,(.val ⟨Z11,v.2.1⟩)),(2,(.val ⟨(.slice Z8),v.2.2.1⟩)),(9,(.row 0)),(10,(.val ⟨Z3,v.2.2.2.1⟩)),(11,(.val ⟨Z3,v.2.2.2.2.1⟩)),(12,(.val ⟨Z3,v.2.2.2.2.2.1⟩))],l:=[(0,.row Z3 v.2.2.2.2.2.2)],k:=[],b:=4096 }
def href05_together_0 (self0:Y6×Y6×Y12×Int×Int×Int×Y6→Option (Y6×Int×Int)) (v:Y6×Y6×Y12×Int×Int×Int×Y6):Option (Y6×Int×Int):=
 (bif (decide (v.2.2.2.2.2.1 < (List.length v.2.2.1:Int))) then ((getI v.2.2.1 v.2.2.2.2.2.1).bind fun x1=>((getI v.2.1 x1.2.1).bind fun x2=>((cref05_up (v.2.2.2.1,x2)).bind fun x3=>(bif (Nat.ble 1 1&&Nat.ble (List.length v.2.2.2.2.2.2+List.length ([x3]:Y6)) lim) then (let x4:Y6:=(List.append v.2.2.2.2.2.2 ([x3]:Y6));((getI v.1 x1.2.1).bind fun x5=>(let x6:Int:=(IntKind.i64.wrap (x3+x5));(let x7:Int:=(if x6 < (1000000:Int) then x6 else (1000000:Int));((getI v.2.1 x1.2.1).bind fun x8=>(let x9:Int:=(if x8 > v.2.2.2.2.1 then x8 else v.2.2.2.2.1);(let x10:Int:=(IntKind.i64.wrap (v.2.2.2.2.2.1+(1:Int)));(self0 (v.1,v.2.1,v.2.2.1,x7,x9,x10,x4))))))))) else none)))) else ((cref05_up (v.2.2.2.1,v.2.2.2.2.1)).bind fun x11=>(let x12:Int:=(if x11 < (1000000:Int) then x11 else (1000000:Int));(some (v.2.2.2.2.2.2,x12,v.2.2.2.2.1)))))
def gref05_together_0 (N:Nat) (self0:Y6×Y6×Y12×Int×Int×Int×Y6→Option (Y6×Int×Int)) (v:Y6×Y6×Y12×Int×Int×Int×Y6):Option (Y6×Int×Int):=href05_together_0 self0 v
theorem kz104_0 (N:Nat) (s0:St→Option (Y6×Int×Int)) (v):(floc (Ez104) Tz104 6 N Tryz.f105 [Z11,Z3,Z3] [true,false,false] [] 0 nowhereR) s0 (ez104_0 v)=href05_together_0 (fun v=>s0 (ez104_0 v)) v:=by kernel_rfl
theorem bz104_0 (N:Nat) (s0:St→Option (Y6×Int×Int)) (v):(floc (Ez104) Tz104 6 N Tryz.f105 [Z11,Z3,Z3] [true,false,false] [] 0 nowhereR) s0 (ez104_0 v)=gref05_together_0 N (fun v=>s0 (ez104_0 v)) v:=kz104_0 N s0 v
def nref05_together (loop0:Y6×Y6×Y12×Int×Int×Int×Y6→Option (Y6×Int×Int)) (x:Y6×Y6×Y12):Option (Y6×Int×Int):=
 (loop0 (x.1,x.2.1,x.2.2,(0:Int),(1:Int),(0:Int),([]:List Int)))
def mref05_together (N:Nat) (x:Y6×Y6×Y12):Option (Y6×Int×Int):=nref05_together (iterV (gref05_together_0 N) N) x
theorem jz104 (N:Nat) (x:Y6×Y6×Y12):rise (Ez104) Tz104 6 N Tryz.f105 [Z11,Z11,(.slice Z8)] [Z11,Z3,Z3] [true,false,false] x=nref05_together (fun v=>iterR (floc (Ez104) Tz104 6 N Tryz.f105 [Z11,Z3,Z3] [true,false,false] [] 0 nowhereR) N (ez104_0 v)) x:=by kernel_rfl
theorem lz104 (N:Nat) (x:Y6×Y6×Y12):rise (Ez104) Tz104 6 N Tryz.f105 [Z11,Z11,(.slice Z8)] [Z11,Z3,Z3] [true,false,false] x=mref05_together N x:=(jz104 N x).trans (by rw [funext (iterR_eq ez104_0 (bz104_0 N) N)];rfl)
def cref05_together (x:Y6×Y6×Y12):Option (Y6×Int×Int):=mref05_together big x
def Gz104:Fn2:=⟨[Z11,Z11,(.slice Z8)],[Z11,Z3,Z3],[true,false,false],fun x=>cref05_together x⟩
theorem Lz104:Rises Tryz.prog 105 Gz104:=rises_of (E:=Ez104) ⟨tabOk,(fsCons2 Lz103 fsNil2),fun _ _ _=>rfl,mixed,inlNil,rcsNil,owsNil⟩ Tryz.func105 rfl (by decide) (by kernel_rfl) (by kernel_rfl) (by kernel_rfl) (by kernel_rfl) (fun x r _ h=>⟨Tz104,6,big,(lz104 big x).trans h⟩)
def Tz105:LT:={ live:=[(3,[0,4,5,6])],keep:=[] }
noncomputable def Ez105:Env2:={ tab:=tab,fs:=[(105,Gz104)],inl:=[] }
noncomputable def ez105_0 (v:Y2×Int×Y6×Y6):St:={ s:=[(0,(.val ⟨Z12,v.1⟩)),(4,(.row 0)),(5,(.row 1)),(6,(.val ⟨Z3,v.2.1⟩))],l:=[(0,.row Z3 v.2.2.1),(1,.row Z3 v.2.2.2)],k:=[],b:=4096 }
def href05_Sizes_0 (self0:Y2×Int×Y6×Y6→Option (Y6×Y6)) (v:Y2×Int×Y6×Y6):Option (Y6×Y6):=
 (bif (decide (v.2.1 < (List.length v.1:Int))) then ((getI v.1 v.2.1).bind fun x1=>(bif (x1.1==(1:Int)) then (let x2:Y6:=([(1:Int)]:Y6);(bif (Nat.ble 1 1&&Nat.ble (List.length v.2.2.1+List.length x2) lim) then (let x3:Y6:=([(1:Int)]:Y6);(bif (Nat.ble 1 1&&Nat.ble (List.length v.2.2.2+List.length x3) lim) then (let x4:Int:=(IntKind.i64.wrap (v.2.1+(1:Int)));(self0 (v.1,x4,(List.append v.2.2.1 x2),(List.append v.2.2.2 x3)))) else none)) else none)) else (bif (x1.1==(3:Int)) then (let x5:Y6:=([(16:Int)]:Y6);(bif (Nat.ble 1 1&&Nat.ble (List.length v.2.2.1+List.length x5) lim) then (let x6:Y6:=([(8:Int)]:Y6);(bif (Nat.ble 1 1&&Nat.ble (List.length v.2.2.2+List.length x6) lim) then (let x7:Int:=(IntKind.i64.wrap (v.2.1+(1:Int)));(self0 (v.1,x7,(List.append v.2.2.1 x5),(List.append v.2.2.2 x6)))) else none)) else none)) else (bif (x1.1==(7:Int)) then (let x8:Y6:=([(24:Int)]:Y6);(bif (Nat.ble 1 1&&Nat.ble (List.length v.2.2.1+List.length x8) lim) then (let x9:Y6:=([(8:Int)]:Y6);(bif (Nat.ble 1 1&&Nat.ble (List.length v.2.2.2+List.length x9) lim) then (let x10:Int:=(IntKind.i64.wrap (v.2.1+(1:Int)));(self0 (v.1,x10,(List.append v.2.2.1 x8),(List.append v.2.2.2 x9)))) else none)) else none)) else (bif (x1.1==(6:Int)) then ((getI v.1 v.2.1).bind fun x11=>((getI v.1 v.2.1).bind fun x12=>(bif (decide (0≤x12.2.1)&&decide (x12.2.1 < (List.length v.2.2.1:Int))) then ((nth v.2.2.1 (Int.toNat x12.2.1)).bind fun x13=>(let x14:Int:=(IntKind.i64.wrap (x11.2.2.1 * x13));(let x15:Int:=(if x14 < (1000000:Int) then x14 else (1000000:Int));((getI v.1 v.2.1).bind fun x16=>(bif (decide (0≤x16.2.1)&&decide (x16.2.1 < (List.length v.2.2.2:Int))) then ((nth v.2.2.2 (Int.toNat x16.2.1)).bind fun x17=>(bif (Nat.ble 1 1&&Nat.ble (List.length v.2.2.1+List.length ([x15]:Y6)) lim) then (let x18:Y6:=(List.append v.2.2.1 ([x15]:Y6));(bif (Nat.ble 1 1&&Nat.ble (List.length v.2.2.2+List.length ([x17]:Y6)) lim) then (let x19:Y6:=(List.append v.2.2.2 ([x17]:Y6));(let x20:Int:=(IntKind.i64.wrap (v.2.1+(1:Int)));(self0 (v.1,x20,x18,x19)))) else none)) else none)) else none))))) else none))) else (bif (x1.1==(5:Int)) then ((getI v.1 v.2.1).bind fun x21=>((cref05_together (v.2.2.1,v.2.2.2,x21.2.2.2.1)).bind fun x22=>(bif (Nat.ble 1 1&&Nat.ble (List.length v.2.2.1+List.length ([x22.2.1]:Y6)) lim) then (let x23:Y6:=(List.append v.2.2.1 ([x22.2.1]:Y6));(bif (Nat.ble 1 1&&Nat.ble (List.length v.2.2.2+List.length ([x22.2.2]:Y6)) lim) then (let x24:Y6:=(List.append v.2.2.2 ([x22.2.2]:Y6));(let x25:Int:=(IntKind.i64.wrap (v.2.1+(1:Int)));(self0 (v.1,x25,x23,x24)))) else none)) else none))) else (let x26:Y6:=([(8:Int)]:Y6);(bif (Nat.ble 1 1&&Nat.ble (List.length v.2.2.1+List.length x26) lim) then (let x27:Y6:=(List.append v.2.2.1 x26);(let x28:Y6:=([(8:Int)]:Y6);(bif (Nat.ble 1 1&&Nat.ble (List.length v.2.2.2+List.length x28) lim) then (let x29:Y6:=(List.append v.2.2.2 x28);(let x30:Int:=(IntKind.i64.wrap (v.2.1+(1:Int)));(self0 (v.1,x30,x27,x29)))) else none))) else none)))))))) else (some (v.2.2.1,v.2.2.2)))
def gref05_Sizes_0 (N:Nat) (self0:Y2×Int×Y6×Y6→Option (Y6×Y6)) (v:Y2×Int×Y6×Y6):Option (Y6×Y6):=href05_Sizes_0 self0 v
theorem kz105_0 (N:Nat) (s0:St→Option (Y6×Y6)) (v):(floc (Ez105) Tz105 6 N Tryz.f69 [Z11,Z11] [true,false] [] 0 nowhereR) s0 (ez105_0 v)=href05_Sizes_0 (fun v=>s0 (ez105_0 v)) v:=by kernel_rfl
theorem bz105_0 (N:Nat) (s0:St→Option (Y6×Y6)) (v):(floc (Ez105) Tz105 6 N Tryz.f69 [Z11,Z11] [true,false] [] 0 nowhereR) s0 (ez105_0 v)=gref05_Sizes_0 N (fun v=>s0 (ez105_0 v)) v:=kz105_0 N s0 v
def nref05_Sizes (loop0:Y2×Int×Y6×Y6→Option (Y6×Y6)) (x:Y2):Option (Y6×Y6):=
 (loop0 (x,(0:Int),([]:List Int),([]:List Int)))
def mref05_Sizes (N:Nat) (x:Y2):Option (Y6×Y6):=nref05_Sizes (iterV (gref05_Sizes_0 N) N) x
theorem jz105 (N:Nat) (x:Y2):rise (Ez105) Tz105 6 N Tryz.f69 [Z12] [Z11,Z11] [true,false] x=nref05_Sizes (fun v=>iterR (floc (Ez105) Tz105 6 N Tryz.f69 [Z11,Z11] [true,false] [] 0 nowhereR) N (ez105_0 v)) x:=by kernel_rfl
theorem lz105 (N:Nat) (x:Y2):rise (Ez105) Tz105 6 N Tryz.f69 [Z12] [Z11,Z11] [true,false] x=mref05_Sizes N x:=(jz105 N x).trans (by rw [funext (iterR_eq ez105_0 (bz105_0 N) N)];rfl)
def cref05_Sizes (x:Y2):Option (Y6×Y6):=mref05_Sizes big x
def Gz105:Fn2:=⟨[Z12],[Z11,Z11],[true,false],fun x=>cref05_Sizes x⟩
theorem Lz105:Rises Tryz.prog 69 Gz105:=rises_of (E:=Ez105) ⟨tabOk,(fsCons2 Lz104 fsNil2),fun _ _ _=>rfl,mixed,inlNil,rcsNil,owsNil⟩ Tryz.func69 rfl (by decide) (by kernel_rfl) (by kernel_rfl) (by kernel_rfl) (by kernel_rfl) (fun x r _ h=>⟨Tz105,6,big,(lz105 big x).trans h⟩)
def Tz106:LT:={ live:=[],keep:=[] }
noncomputable def Ez106:Env2:={ tab:=tab,fs:=[],inl:=[] }
def nref06_Operands (x:Y8):Option (Y6):=
 (let x1:Y6:=[x.2.1,x.2.2.1,x.2.2.2.1];(some x1))
def mref06_Operands (N:Nat) (x:Y8):Option (Y6):=nref06_Operands x
theorem jz106 (N:Nat) (x:Y8):rise (Ez106) Tz106 6 N Tryz.f101 [Z5] [(.arr 3 Z3)] [false] x=nref06_Operands x:=by kernel_rfl
theorem lz106 (N:Nat) (x:Y8):rise (Ez106) Tz106 6 N Tryz.f101 [Z5] [(.arr 3 Z3)] [false] x=mref06_Operands N x:=(jz106 N x).trans rfl
def cref06_Operands (x:Y8):Option (Y6):=mref06_Operands big x
def Gz106:Fn2:=⟨[Z5],[(.arr 3 Z3)],[false],fun x=>cref06_Operands x⟩
theorem Lz106:Rises Tryz.prog 101 Gz106:=rises_of (E:=Ez106) ⟨tabOk,fsNil2,fun _ _ _=>rfl,mixed,inlNil,rcsNil,owsNil⟩ Tryz.func101 rfl (by decide) (by kernel_rfl) (by kernel_rfl) (by kernel_rfl) (by kernel_rfl) (fun x r _ h=>⟨Tz106,6,big,(lz106 big x).trans h⟩)
def Tz107:LT:={ live:=[(5,[3,4,5])],keep:=[] }
noncomputable def Ez107:Env2:={ tab:=tab,fs:=[(100,Gz86),(101,Gz106),(135,Gz88)],inl:=[] }
noncomputable def ez107_0 (v:Y6×Int×Y6):St:={ s:=[(3,(.val ⟨.str,v.1⟩)),(4,(.loc 0 [])),(5,(.val ⟨Z3,v.2.1⟩))],l:=[(0,.var (.arr 3 Z3) (.val ⟨(.arr 3 Z3),v.2.2⟩))],k:=[],b:=4096 }
def href06_Check_0 (self0:Y6×Int×Y6→Option (Int)) (v:Y6×Int×Y6):Option (Int):=
 (bif (decide (v.2.1 < (3:Int))) then ((getI v.1 v.2.1).bind fun x3=>(bif (decide (0≤v.2.1)&&decide (v.2.1 < (3:Int))) then ((nth v.2.2 (Int.toNat v.2.1)).bind fun x4=>((cref06_Fits (x3,x4)).bind fun x5=>(bif (!x5) then (some (8:Int)) else (let x6:Int:=(IntKind.i64.wrap (v.2.1+(1:Int)));(self0 (v.1,x6,v.2.2)))))) else none)) else (some (0:Int)))
def gref06_Check_0 (N:Nat) (self0:Y6×Int×Y6→Option (Int)) (v:Y6×Int×Y6):Option (Int):=href06_Check_0 self0 v
theorem kz107_0 (N:Nat) (s0:St→Option (Int)) (v):(floc (Ez107) Tz107 6 N Tryz.f108 [Z3] [false] [] 0 nowhereR) s0 (ez107_0 v)=href06_Check_0 (fun v=>s0 (ez107_0 v)) v:=by kernel_rfl
theorem bz107_0 (N:Nat) (s0:St→Option (Int)) (v):(floc (Ez107) Tz107 6 N Tryz.f108 [Z3] [false] [] 0 nowhereR) s0 (ez107_0 v)=gref06_Check_0 N (fun v=>s0 (ez107_0 v)) v:=kz107_0 N s0 v
def nref06_Check (loop0:Y6×Int×Y6→Option (Int)) (x:Y8):Option (Int):=
 ((cref06_Shape x.1).bind fun x1=>((cref06_Operands x).bind fun x2=>(bif ((List.length x1:Int) != (3:Int)) then (some (8:Int)) else (loop0 (x1,(0:Int),x2)))))
def mref06_Check (N:Nat) (x:Y8):Option (Int):=nref06_Check (iterV (gref06_Check_0 N) N) x
theorem jz107 (N:Nat) (x:Y8):rise (Ez107) Tz107 6 N Tryz.f108 [Z5] [Z3] [false] x=nref06_Check (fun v=>iterR (floc (Ez107) Tz107 6 N Tryz.f108 [Z3] [false] [] 0 nowhereR) N (ez107_0 v)) x:=by kernel_rfl
theorem lz107 (N:Nat) (x:Y8):rise (Ez107) Tz107 6 N Tryz.f108 [Z5] [Z3] [false] x=mref06_Check N x:=(jz107 N x).trans (by rw [funext (iterR_eq ez107_0 (bz107_0 N) N)];rfl)
def cref06_Check (x:Y8):Option (Int):=mref06_Check big x
def Gz107:Fn2:=⟨[Z5],[Z3],[false],fun x=>cref06_Check x⟩
theorem Lz107:Rises Tryz.prog 108 Gz107:=rises_of (E:=Ez107) ⟨tabOk,(fsCons2 Lz86 (fsCons2 Lz106 (fsCons2 Lz88 fsNil2))),fun _ _ _=>rfl,mixed,inlNil,rcsNil,owsNil⟩ Tryz.func108 rfl (by decide) (by kernel_rfl) (by kernel_rfl) (by kernel_rfl) (by kernel_rfl) (fun x r _ h=>⟨Tz107,6,big,(lz107 big x).trans h⟩)
def Tz108:LT:={ live:=[(4,[0,3,5]),(9,[3,6])],keep:=[] }
noncomputable def Ez108:Env2:={ tab:=tab,fs:=[(106,Gz97),(107,Gz98),(108,Gz107),(109,Gz91)],inl:=[] }
noncomputable def ez108_1 (v:Int×Y0):St:={ s:=[(3,(.loc 0 [])),(6,(.val ⟨Z3,v.1⟩))],l:=[(0,.var Z0 (.val ⟨Z0,v.2⟩))],k:=[],b:=4096 }
noncomputable def ez108_0 (v:Y2×Int×Y0):St:={ s:=[(0,(.val ⟨Z12,v.1⟩)),(3,(.loc 0 [])),(5,(.val ⟨Z3,v.2.1⟩))],l:=[(0,.var Z0 (.val ⟨Z0,v.2.2⟩))],k:=[],b:=4096 }
def href09_function_1 (self0:Y2×Int×Y0→Option (Bool)) (self1:Int×Y0→Option (Bool)) (v:Int×Y0):Option (Bool):=
 (bif (decide (v.1 < (List.length v.2.2.2.2.2.1:Int))) then ((getI v.2.2.2.2.2.1 v.1).bind fun x6=>((cref06_Check x6).bind fun x7=>(bif (x7 != (0:Int)) then (some false) else (let x8:Int:=(IntKind.i64.wrap (v.1+(1:Int)));(self1 (x8,v.2)))))) else ((cref08_Fine (v.2.2.2.2.2.2.1,(List.length v.2.2.2.2.2.1:Int))).bind fun x9=>(bif x9 then ((cref08_Fine (v.2.2.2.2.2.2.2.1,(List.length v.2.2.2.2.2.1:Int))).bind fun x10=>(some x10)) else (some false))))
def gref09_function_1 (N:Nat) (self0:Y2×Int×Y0→Option (Bool)) (self1:Int×Y0→Option (Bool)) (v:Int×Y0):Option (Bool):=href09_function_1 self0 self1 v
theorem kz108_1 (N:Nat) (s0:St→Option (Bool)) (s1:St→Option (Bool)) (v):(floc (Ez108) Tz108 6 N Tryz.f70 [.bool] [false] [] 1 nowhereR) s1 (ez108_1 v)=href09_function_1 (fun v=>s0 (ez108_0 v)) (fun v=>s1 (ez108_1 v)) v:=by kernel_rfl
theorem bz108_1 (N:Nat) (s0:St→Option (Bool)) (s1:St→Option (Bool)) (v):(floc (Ez108) Tz108 6 N Tryz.f70 [.bool] [false] [] 1 nowhereR) s1 (ez108_1 v)=gref09_function_1 N (fun v=>s0 (ez108_0 v)) (fun v=>s1 (ez108_1 v)) v:=kz108_1 N s0 s1 v
def href09_function_0 (loop1:Int×Y0→Option (Bool)) (self0:Y2×Int×Y0→Option (Bool)) (v:Y2×Int×Y0):Option (Bool):=
 (bif (decide (v.2.1 < (List.length v.2.2.2.2.2.1:Int))) then ((getI v.2.2.2.2.2.1 v.2.1).bind fun x3=>(bif (decide (x3.2.1 < (0:Int))) then (some false) else ((getI v.2.2.2.2.2.1 v.2.1).bind fun x4=>(bif (decide (x4.2.1≥(List.length v.1:Int))) then (some false) else (let x5:Int:=(IntKind.i64.wrap (v.2.1+(1:Int)));(self0 (v.1,x5,v.2.2))))))) else (loop1 ((0:Int),v.2.2)))
def gref09_function_0 (N:Nat) (self0:Y2×Int×Y0→Option (Bool)) (v:Y2×Int×Y0):Option (Bool):=href09_function_0 (iterV (gref09_function_1 N self0) N) self0 v
theorem kz108_0 (N:Nat) (s0:St→Option (Bool)) (v):(floc (Ez108) Tz108 6 N Tryz.f70 [.bool] [false] [] 0 nowhereR) s0 (ez108_0 v)=href09_function_0 (fun v=>iterR (floc (Ez108) Tz108 6 N Tryz.f70 [.bool] [false] [] 1 nowhereR) N (ez108_1 v)) (fun v=>s0 (ez108_0 v)) v:=by kernel_rfl
theorem bz108_0 (N:Nat) (s0:St→Option (Bool)) (v):(floc (Ez108) Tz108 6 N Tryz.f70 [.bool] [false] [] 0 nowhereR) s0 (ez108_0 v)=gref09_function_0 N (fun v=>s0 (ez108_0 v)) v:=(kz108_0 N s0 v).trans (by rw [funext (iterR_eq ez108_1 (bz108_1 N s0) N)];rfl)
def nref09_function (loop0:Y2×Int×Y0→Option (Bool)) (x:Y2×Y0):Option (Bool):=
 ((cref04_Named x.2.1).bind fun x1=>(bif (!x1) then (some false) else ((cref04_Fields (x.2.2.2.2.1,(16:Int))).bind fun x2=>(bif (!x2) then (some false) else (bif (decide (x.2.2.1 < (0:Int))) then (some false) else (bif (decide (x.2.2.1 > (List.length x.2.2.2.2.1:Int))) then (some false) else (bif (decide (x.2.2.2.1 < (-1:Int))) then (some false) else (bif (decide (x.2.2.2.1≥(List.length x.1:Int))) then (some false) else (bif (decide ((List.length x.2.2.2.2.2.1:Int) < (1:Int))) then (some false) else (bif (decide ((List.length x.2.2.2.2.2.1:Int) > (200:Int))) then (some false) else (loop0 (x.1,(0:Int),x.2))))))))))))
def mref09_function (N:Nat) (x:Y2×Y0):Option (Bool):=nref09_function (iterV (gref09_function_0 N) N) x
theorem jz108 (N:Nat) (x:Y2×Y0):rise (Ez108) Tz108 6 N Tryz.f70 [Z12,Z0] [.bool] [false] x=nref09_function (fun v=>iterR (floc (Ez108) Tz108 6 N Tryz.f70 [.bool] [false] [] 0 nowhereR) N (ez108_0 v)) x:=by kernel_rfl
theorem lz108 (N:Nat) (x:Y2×Y0):rise (Ez108) Tz108 6 N Tryz.f70 [Z12,Z0] [.bool] [false] x=mref09_function N x:=(jz108 N x).trans (by rw [funext (iterR_eq ez108_0 (bz108_0 N) N)];rfl)
def cref09_function (x:Y2×Y0):Option (Bool):=mref09_function big x
def Gz108:Fn2:=⟨[Z12,Z0],[.bool],[false],fun x=>cref09_function x⟩
theorem Lz108:Rises Tryz.prog 70 Gz108:=rises_of (E:=Ez108) ⟨tabOk,(fsCons2 Lz97 (fsCons2 Lz98 (fsCons2 Lz107 (fsCons2 Lz91 fsNil2)))),fun _ _ _=>rfl,mixed,inlNil,rcsNil,owsNil⟩ Tryz.func70 rfl (by decide) (by kernel_rfl) (by kernel_rfl) (by kernel_rfl) (by kernel_rfl) (fun x r _ h=>⟨Tz108,6,big,(lz108 big x).trans h⟩)
def Tz109:LT:={ live:=[(5,[1,3,5]),(10,[1,6]),(15,[1,7]),(20,[1,7,8])],keep:=[] }
noncomputable def Ez109:Env2:={ tab:=tab,fs:=[(68,Gz102),(69,Gz105),(70,Gz108)],inl:=[] }
noncomputable def ez109_3 (v:Int×Int×Y4):St:={ s:=[(1,(.loc 0 [])),(7,(.val ⟨Z3,v.1⟩)),(8,(.val ⟨Z3,v.2.1⟩))],l:=[(0,.var Z4 (.val ⟨Z4,v.2.2⟩))],k:=[],b:=4096 }
noncomputable def ez109_2 (v:Int×Y4):St:={ s:=[(1,(.loc 0 [])),(7,(.val ⟨Z3,v.1⟩))],l:=[(0,.var Z4 (.val ⟨Z4,v.2⟩))],k:=[],b:=4096 }
noncomputable def ez109_1 (v:Int×Y4):St:={ s:=[(1,(.loc 0 [])),(6,(.val ⟨Z3,v.1⟩))],l:=[(0,.var Z4 (.val ⟨Z4,v.2⟩))],k:=[],b:=4096 }
noncomputable def ez109_0 (v:Y31):St:={ s:=[(1,(.loc 0 [])),(3,(.row 1)),(5,(.val ⟨Z3,v.1⟩))],l:=[(0,.var Z4 (.val ⟨Z4,v.2.1⟩)),(1,.row Z3 v.2.2)],k:=[],b:=4096 }
def href09_Fine_3 (self0:Y31→Option (Bool)) (self1:Int×Y4→Option (Bool)) (self2:Int×Y4→Option (Bool)) (self3:Int×Int×Y4→Option (Bool)) (v:Int×Int×Y4):Option (Bool):=
 (bif (decide (v.2.1 < v.1)) then ((getI v.2.2.2.2.1 v.2.1).bind fun x9=>((getI v.2.2.2.2.1 v.1).bind fun x10=>(bif (eqD .str x9.1 x10.1) then (some false) else (let x11:Int:=(IntKind.i64.wrap (v.2.1+(1:Int)));(self3 (v.1,x11,v.2.2)))))) else (let x12:Int:=(IntKind.i64.wrap (v.1+(1:Int)));(self2 (x12,v.2.2))))
def gref09_Fine_3 (N:Nat) (self0:Y31→Option (Bool)) (self1:Int×Y4→Option (Bool)) (self2:Int×Y4→Option (Bool)) (self3:Int×Int×Y4→Option (Bool)) (v:Int×Int×Y4):Option (Bool):=href09_Fine_3 self0 self1 self2 self3 v
theorem kz109_3 (N:Nat) (s0:St→Option (Bool)) (s1:St→Option (Bool)) (s2:St→Option (Bool)) (s3:St→Option (Bool)) (v):(floc (Ez109) Tz109 6 N Tryz.f38 [.bool] [false] [] 3 (outerR s2 nowhereR)) s3 (ez109_3 v)=href09_Fine_3 (fun v=>s0 (ez109_0 v)) (fun v=>s1 (ez109_1 v)) (fun v=>s2 (ez109_2 v)) (fun v=>s3 (ez109_3 v)) v:=by kernel_rfl
theorem bz109_3 (N:Nat) (s0:St→Option (Bool)) (s1:St→Option (Bool)) (s2:St→Option (Bool)) (s3:St→Option (Bool)) (v):(floc (Ez109) Tz109 6 N Tryz.f38 [.bool] [false] [] 3 (outerR s2 nowhereR)) s3 (ez109_3 v)=gref09_Fine_3 N (fun v=>s0 (ez109_0 v)) (fun v=>s1 (ez109_1 v)) (fun v=>s2 (ez109_2 v)) (fun v=>s3 (ez109_3 v)) v:=kz109_3 N s0 s1 s2 s3 v
def href09_Fine_2 (loop3:Int×Int×Y4→Option (Bool)) (self0:Y31→Option (Bool)) (self1:Int×Y4→Option (Bool)) (self2:Int×Y4→Option (Bool)) (v:Int×Y4):Option (Bool):=
 (bif (decide (v.1 < (List.length v.2.2.2.1:Int))) then ((getI v.2.2.2.1 v.1).bind fun x7=>((cref09_function (v.2.1,x7)).bind fun x8=>(bif (!x8) then (some false) else (loop3 (v.1,(0:Int),v.2))))) else (some true))
def gref09_Fine_2 (N:Nat) (self0:Y31→Option (Bool)) (self1:Int×Y4→Option (Bool)) (self2:Int×Y4→Option (Bool)) (v:Int×Y4):Option (Bool):=href09_Fine_2 (iterV (gref09_Fine_3 N self0 self1 self2) N) self0 self1 self2 v
theorem kz109_2 (N:Nat) (s0:St→Option (Bool)) (s1:St→Option (Bool)) (s2:St→Option (Bool)) (v):(floc (Ez109) Tz109 6 N Tryz.f38 [.bool] [false] [] 2 nowhereR) s2 (ez109_2 v)=href09_Fine_2 (fun v=>iterR (floc (Ez109) Tz109 6 N Tryz.f38 [.bool] [false] [] 3 (outerR s2 nowhereR)) N (ez109_3 v)) (fun v=>s0 (ez109_0 v)) (fun v=>s1 (ez109_1 v)) (fun v=>s2 (ez109_2 v)) v:=by kernel_rfl
theorem bz109_2 (N:Nat) (s0:St→Option (Bool)) (s1:St→Option (Bool)) (s2:St→Option (Bool)) (v):(floc (Ez109) Tz109 6 N Tryz.f38 [.bool] [false] [] 2 nowhereR) s2 (ez109_2 v)=gref09_Fine_2 N (fun v=>s0 (ez109_0 v)) (fun v=>s1 (ez109_1 v)) (fun v=>s2 (ez109_2 v)) v:=(kz109_2 N s0 s1 s2 v).trans (by rw [funext (iterR_eq ez109_3 (bz109_3 N s0 s1 s2) N)];rfl)
def href09_Fine_1 (loop2:Int×Y4→Option (Bool)) (self0:Y31→Option (Bool)) (self1:Int×Y4→Option (Bool)) (v:Int×Y4):Option (Bool):=
 (bif (decide (v.1 < (List.length v.2.2.1:Int))) then ((getI v.2.2.1 v.1).bind fun x5=>(bif (decide ((List.length x5:Int) > (64:Int))) then (some false) else (let x6:Int:=(IntKind.i64.wrap (v.1+(1:Int)));(self1 (x6,v.2))))) else (loop2 ((0:Int),v.2)))
def gref09_Fine_1 (N:Nat) (self0:Y31→Option (Bool)) (self1:Int×Y4→Option (Bool)) (v:Int×Y4):Option (Bool):=href09_Fine_1 (iterV (gref09_Fine_2 N self0 self1) N) self0 self1 v
theorem kz109_1 (N:Nat) (s0:St→Option (Bool)) (s1:St→Option (Bool)) (v):(floc (Ez109) Tz109 6 N Tryz.f38 [.bool] [false] [] 1 nowhereR) s1 (ez109_1 v)=href09_Fine_1 (fun v=>iterR (floc (Ez109) Tz109 6 N Tryz.f38 [.bool] [false] [] 2 nowhereR) N (ez109_2 v)) (fun v=>s0 (ez109_0 v)) (fun v=>s1 (ez109_1 v)) v:=by kernel_rfl
theorem bz109_1 (N:Nat) (s0:St→Option (Bool)) (s1:St→Option (Bool)) (v):(floc (Ez109) Tz109 6 N Tryz.f38 [.bool] [false] [] 1 nowhereR) s1 (ez109_1 v)=gref09_Fine_1 N (fun v=>s0 (ez109_0 v)) (fun v=>s1 (ez109_1 v)) v:=(kz109_1 N s0 s1 v).trans (by rw [funext (iterR_eq ez109_2 (bz109_2 N s0 s1) N)];rfl)
def href09_Fine_0 (loop1:Int×Y4→Option (Bool)) (self0:Y31→Option (Bool)) (v:Y31):Option (Bool):=
 (bif (decide (v.1 < (List.length v.2.2:Int))) then (bif (decide (0≤v.1)&&decide (v.1 < (List.length v.2.2:Int))) then ((nth v.2.2 (Int.toNat v.1)).bind fun x3=>(bif (decide (x3 > (256:Int))) then (some false) else (let x4:Int:=(IntKind.i64.wrap (v.1+(1:Int)));(self0 (x4,v.2.1,v.2.2))))) else none) else (loop1 ((0:Int),v.2.1)))
def gref09_Fine_0 (N:Nat) (self0:Y31→Option (Bool)) (v:Y31):Option (Bool):=href09_Fine_0 (iterV (gref09_Fine_1 N self0) N) self0 v
theorem kz109_0 (N:Nat) (s0:St→Option (Bool)) (v):(floc (Ez109) Tz109 6 N Tryz.f38 [.bool] [false] [] 0 nowhereR) s0 (ez109_0 v)=href09_Fine_0 (fun v=>iterR (floc (Ez109) Tz109 6 N Tryz.f38 [.bool] [false] [] 1 nowhereR) N (ez109_1 v)) (fun v=>s0 (ez109_0 v)) v:=by kernel_rfl
theorem bz109_0 (N:Nat) (s0:St→Option (Bool)) (v):(floc (Ez109) Tz109 6 N Tryz.f38 [.bool] [false] [] 0 nowhereR) s0 (ez109_0 v)=gref09_Fine_0 N (fun v=>s0 (ez109_0 v)) v:=(kz109_0 N s0 v).trans (by rw [funext (iterR_eq ez109_1 (bz109_1 N s0) N)];rfl)
def nref09_Fine (loop0:Y31→Option (Bool)) (x:Y4):Option (Bool):=
 ((cref04_Check x.1).bind fun x1=>(bif (x1 != (0:Int)) then (some false) else (bif (decide ((List.length x.2.1:Int) > (32:Int))) then (some false) else (bif (decide ((List.length x.2.2.1:Int) < (1:Int))) then (some false) else (bif (decide ((List.length x.2.2.1:Int) > (32:Int))) then (some false) else ((cref05_Sizes x.1).bind fun x2=>(loop0 ((0:Int),x,x2.1))))))))
def mref09_Fine (N:Nat) (x:Y4):Option (Bool):=nref09_Fine (iterV (gref09_Fine_0 N) N) x
theorem jz109 (N:Nat) (x:Y4):rise (Ez109) Tz109 6 N Tryz.f38 [Z4] [.bool] [false] x=nref09_Fine (fun v=>iterR (floc (Ez109) Tz109 6 N Tryz.f38 [.bool] [false] [] 0 nowhereR) N (ez109_0 v)) x:=by kernel_rfl
theorem lz109 (N:Nat) (x:Y4):rise (Ez109) Tz109 6 N Tryz.f38 [Z4] [.bool] [false] x=mref09_Fine N x:=(jz109 N x).trans (by rw [funext (iterR_eq ez109_0 (bz109_0 N) N)];rfl)
def cref09_Fine (x:Y4):Option (Bool):=mref09_Fine big x
def Gz109:Fn2:=⟨[Z4],[.bool],[false],fun x=>cref09_Fine x⟩
theorem Lz109:Rises Tryz.prog 38 Gz109:=rises_of (E:=Ez109) ⟨tabOk,(fsCons2 Lz102 (fsCons2 Lz105 (fsCons2 Lz108 fsNil2))),fun _ _ _=>rfl,mixed,inlNil,rcsNil,owsNil⟩ Tryz.func38 rfl (by decide) (by kernel_rfl) (by kernel_rfl) (by kernel_rfl) (by kernel_rfl) (fun x r _ h=>⟨Tz109,6,big,(lz109 big x).trans h⟩)
def Tz110:LT:={ live:=[(2,[0,3])],keep:=[] }
noncomputable def Ez110:Env2:={ tab:=tab,fs:=[],inl:=[] }
noncomputable def ez110_0 (v:Int×Y6):St:={ s:=[(0,(.val ⟨Z14,v.1⟩)),(3,(.row 0))],l:=[(0,.row Z13 v.2)],k:=[],b:=4096 }
def href02_Minimal_0 (self0:Int×Y6→Option (Y6)) (v:Int×Y6):Option (Y6):=
 (bif (decide (v.1≥(128:Int))) then (let x1:Int:=(IntKind.u8.wrap (v.1.tmod (128:Int)));(let x2:Int:=(IntKind.u8.wrap (x1+(128:Int)));(bif (Nat.ble 1 1&&Nat.ble (List.length v.2+List.length ([x2]:Y6)) lim) then (let x3:Y6:=(List.append v.2 ([x2]:Y6));(let x4:Int:=(IntKind.u64.wrap (v.1.tdiv (128:Int)));(self0 (x4,x3)))) else none))) else (let x5:Y6:=([(IntKind.u8.wrap v.1)]:Y6);(bif (Nat.ble 1 1&&Nat.ble (List.length v.2+List.length x5) lim) then (some (List.append v.2 x5)) else none)))
def gref02_Minimal_0 (N:Nat) (self0:Int×Y6→Option (Y6)) (v:Int×Y6):Option (Y6):=href02_Minimal_0 self0 v
theorem kz110_0 (N:Nat) (s0:St→Option (Y6)) (v):(floc (Ez110) Tz110 6 N Tryz.f64 [Z9] [true] [] 0 nowhereR) s0 (ez110_0 v)=href02_Minimal_0 (fun v=>s0 (ez110_0 v)) v:=by kernel_rfl
theorem bz110_0 (N:Nat) (s0:St→Option (Y6)) (v):(floc (Ez110) Tz110 6 N Tryz.f64 [Z9] [true] [] 0 nowhereR) s0 (ez110_0 v)=gref02_Minimal_0 N (fun v=>s0 (ez110_0 v)) v:=kz110_0 N s0 v
def nref02_Minimal (loop0:Int×Y6→Option (Y6)) (x:Int):Option (Y6):=
 (loop0 (x,([]:List Int)))
def mref02_Minimal (N:Nat) (x:Int):Option (Y6):=nref02_Minimal (iterV (gref02_Minimal_0 N) N) x
theorem jz110 (N:Nat) (x:Int):rise (Ez110) Tz110 6 N Tryz.f64 [Z14] [Z9] [true] x=nref02_Minimal (fun v=>iterR (floc (Ez110) Tz110 6 N Tryz.f64 [Z9] [true] [] 0 nowhereR) N (ez110_0 v)) x:=by kernel_rfl
theorem lz110 (N:Nat) (x:Int):rise (Ez110) Tz110 6 N Tryz.f64 [Z14] [Z9] [true] x=mref02_Minimal N x:=(jz110 N x).trans (by rw [funext (iterR_eq ez110_0 (bz110_0 N) N)];rfl)
def cref02_Minimal (x:Int):Option (Y6):=mref02_Minimal big x
def Gz110:Fn2:=⟨[Z14],[Z9],[true],fun x=>cref02_Minimal x⟩
theorem Lz110:Rises Tryz.prog 64 Gz110:=rises_of (E:=Ez110) ⟨tabOk,fsNil2,fun _ _ _=>rfl,mixed,inlNil,rcsNil,owsNil⟩ Tryz.func64 rfl (by decide) (by kernel_rfl) (by kernel_rfl) (by kernel_rfl) (by kernel_rfl) (fun x r _ h=>⟨Tz110,6,big,(lz110 big x).trans h⟩)
def Tz111:LT:={ live:=[],keep:=[] }
noncomputable def Ez111:Env2:={ tab:=tab,fs:=[(64,Gz110)],inl:=[] }
def nref09_number (x:Int):Option (Y6):=
 ((cref02_Minimal (IntKind.u64.wrap x)).bind fun x1=>(some x1))
def mref09_number (N:Nat) (x:Int):Option (Y6):=nref09_number x
theorem jz111 (N:Nat) (x:Int):rise (Ez111) Tz111 6 N Tryz.f61 [Z3] [Z9] [true] x=nref09_number x:=by kernel_rfl
theorem lz111 (N:Nat) (x:Int):rise (Ez111) Tz111 6 N Tryz.f61 [Z3] [Z9] [true] x=mref09_number N x:=(jz111 N x).trans rfl
def cref09_number (x:Int):Option (Y6):=mref09_number big x
def Gz111:Fn2:=⟨[Z3],[Z9],[true],fun x=>cref09_number x⟩
theorem Lz111:Rises Tryz.prog 61 Gz111:=rises_of (E:=Ez111) ⟨tabOk,(fsCons2 Lz110 fsNil2),fun _ _ _=>rfl,mixed,inlNil,rcsNil,owsNil⟩ Tryz.func61 rfl (by decide) (by kernel_rfl) (by kernel_rfl) (by kernel_rfl) (by kernel_rfl) (fun x r _ h=>⟨Tz111,6,big,(lz111 big x).trans h⟩)
def Tz112:LT:={ live:=[],keep:=[] }
noncomputable def Ez112:Env2:={ tab:=tab,fs:=[(64,Gz110)],inl:=[] }
def nref02_Said (x:Y6):Option (Y6):=
 (let x1:Int:=(IntKind.u64.wrap (List.length x:Int));((cref02_Minimal x1).bind fun x2=>(bif (Nat.ble 1 1&&Nat.ble (List.length x2+List.length x) lim) then (some (List.append x2 x)) else none)))
def mref02_Said (N:Nat) (x:Y6):Option (Y6):=nref02_Said x
theorem jz112 (N:Nat) (x:Y6):rise (Ez112) Tz112 6 N Tryz.f63 [.str] [Z9] [true] x=nref02_Said x:=by kernel_rfl
theorem lz112 (N:Nat) (x:Y6):rise (Ez112) Tz112 6 N Tryz.f63 [.str] [Z9] [true] x=mref02_Said N x:=(jz112 N x).trans rfl
def cref02_Said (x:Y6):Option (Y6):=mref02_Said big x
def Gz112:Fn2:=⟨[.str],[Z9],[true],fun x=>cref02_Said x⟩
theorem Lz112:Rises Tryz.prog 63 Gz112:=rises_of (E:=Ez112) ⟨tabOk,(fsCons2 Lz110 fsNil2),fun _ _ _=>rfl,mixed,inlNil,rcsNil,owsNil⟩ Tryz.func63 rfl (by decide) (by kernel_rfl) (by kernel_rfl) (by kernel_rfl) (by kernel_rfl) (fun x r _ h=>⟨Tz112,6,big,(lz112 big x).trans h⟩)
def Tz113:LT:={ live:=[(3,[0,3,4])],keep:=[] }
noncomputable def Ez113:Env2:={ tab:=tab,fs:=[(61,Gz111),(63,Gz112)],inl:=[] }
noncomputable def ez113_0 (v:Y12×Int×Y6):St:={ s:=[(0,(.val ⟨(.slice Z8),v.1⟩)),(3,(.row 0)),(4,(.val ⟨Z3,v.2.1⟩))],l:=[(0,.row Z13 v.2.2)],k:=[],b:=4096 }
def href09_fields_0 (self0:Y12×Int×Y6→Option (Y6)) (v:Y12×Int×Y6):Option (Y6):=
 (bif (decide (v.2.1 < (List.length v.1:Int))) then ((getI v.1 v.2.1).bind fun x2=>((cref02_Said x2.1).bind fun x3=>(bif (Nat.ble 1 1&&Nat.ble (List.length v.2.2+List.length x3) lim) then ((getI v.1 v.2.1).bind fun x4=>((cref09_number x4.2.1).bind fun x5=>(bif (Nat.ble 1 1&&Nat.ble (List.length (List.append v.2.2 x3)+List.length x5) lim) then (let x6:Y6:=(List.append (List.append v.2.2 x3) x5);(let x7:Int:=(IntKind.i64.wrap (v.2.1+(1:Int)));(self0 (v.1,x7,x6)))) else none))) else none))) else (some v.2.2))
def gref09_fields_0 (N:Nat) (self0:Y12×Int×Y6→Option (Y6)) (v:Y12×Int×Y6):Option (Y6):=href09_fields_0 self0 v
theorem kz113_0 (N:Nat) (s0:St→Option (Y6)) (v):(floc (Ez113) Tz113 6 N Tryz.f62 [Z9] [true] [] 0 nowhereR) s0 (ez113_0 v)=href09_fields_0 (fun v=>s0 (ez113_0 v)) v:=by kernel_rfl
theorem bz113_0 (N:Nat) (s0:St→Option (Y6)) (v):(floc (Ez113) Tz113 6 N Tryz.f62 [Z9] [true] [] 0 nowhereR) s0 (ez113_0 v)=gref09_fields_0 N (fun v=>s0 (ez113_0 v)) v:=kz113_0 N s0 v
def nref09_fields (loop0:Y12×Int×Y6→Option (Y6)) (x:Y12):Option (Y6):=
 ((cref09_number (List.length x:Int)).bind fun x1=>(loop0 (x,(0:Int),x1)))
def mref09_fields (N:Nat) (x:Y12):Option (Y6):=nref09_fields (iterV (gref09_fields_0 N) N) x
theorem jz113 (N:Nat) (x:Y12):rise (Ez113) Tz113 6 N Tryz.f62 [(.slice Z8)] [Z9] [true] x=nref09_fields (fun v=>iterR (floc (Ez113) Tz113 6 N Tryz.f62 [Z9] [true] [] 0 nowhereR) N (ez113_0 v)) x:=by kernel_rfl
theorem lz113 (N:Nat) (x:Y12):rise (Ez113) Tz113 6 N Tryz.f62 [(.slice Z8)] [Z9] [true] x=mref09_fields N x:=(jz113 N x).trans (by rw [funext (iterR_eq ez113_0 (bz113_0 N) N)];rfl)
def cref09_fields (x:Y12):Option (Y6):=mref09_fields big x
def Gz113:Fn2:=⟨[(.slice Z8)],[Z9],[true],fun x=>cref09_fields x⟩
theorem Lz113:Rises Tryz.prog 62 Gz113:=rises_of (E:=Ez113) ⟨tabOk,(fsCons2 Lz111 (fsCons2 Lz112 fsNil2)),fun _ _ _=>rfl,mixed,inlNil,rcsNil,owsNil⟩ Tryz.func62 rfl (by decide) (by kernel_rfl) (by kernel_rfl) (by kernel_rfl) (by kernel_rfl) (fun x r _ h=>⟨Tz113,6,big,(lz113 big x).trans h⟩)
def Tz114:LT:={ live:=[],keep:=[] }
noncomputable def Ez114:Env2:={ tab:=tab,fs:=[],inl:=[] }
def nref02_Double (x:Int):Option (Int):=
 (bif (decide (x≥(0:Int))) then (let x1:Int:=(IntKind.u64.wrap ((IntKind.u64.wrap x) * (2:Int)));(some x1)) else (let x2:Int:=(IntKind.i64.wrap (x+(1:Int)));(let x3:Int:=(IntKind.i64.wrap (0 - x2));(let x4:Int:=(IntKind.u64.wrap ((IntKind.u64.wrap x3) * (2:Int)));(let x5:Int:=(IntKind.u64.wrap (x4+(1:Int)));(some x5))))))
def mref02_Double (N:Nat) (x:Int):Option (Int):=nref02_Double x
theorem jz114 (N:Nat) (x:Int):rise (Ez114) Tz114 6 N Tryz.f65 [Z3] [Z14] [false] x=nref02_Double x:=by kernel_rfl
theorem lz114 (N:Nat) (x:Int):rise (Ez114) Tz114 6 N Tryz.f65 [Z3] [Z14] [false] x=mref02_Double N x:=(jz114 N x).trans rfl
def cref02_Double (x:Int):Option (Int):=mref02_Double big x
def Gz114:Fn2:=⟨[Z3],[Z14],[false],fun x=>cref02_Double x⟩
theorem Lz114:Rises Tryz.prog 65 Gz114:=rises_of (E:=Ez114) ⟨tabOk,fsNil2,fun _ _ _=>rfl,mixed,inlNil,rcsNil,owsNil⟩ Tryz.func65 rfl (by decide) (by kernel_rfl) (by kernel_rfl) (by kernel_rfl) (by kernel_rfl) (fun x r _ h=>⟨Tz114,6,big,(lz114 big x).trans h⟩)
def Tz115:LT:={ live:=[(4,[3,4,5,6])],keep:=[] }
noncomputable def Ez115:Env2:={ tab:=tab,fs:=[(64,Gz110),(65,Gz114),(100,Gz86),(101,Gz106),(102,Gz87)],inl:=[] }
noncomputable def ez115_0 (v:Y6×Int×Y6×Y6):St:={ s:=[(3,(.row 0)),(4,(.val ⟨.str,v.1⟩)),(5,(.loc 1 [])),(6,(.val ⟨Z3,v.2.1⟩))],l:=[(0,.row Z13 v.2.2.1),(1,.var (.arr 3 Z3) (.val ⟨(.arr 3 Z3),v.2.2.2⟩))],k:=[],b:=4096 }
def href06_Coded_0 (self0:Y6×Int×Y6×Y6→Option (Y6)) (v:Y6×Int×Y6×Y6):Option (Y6):=
 (bif (decide (v.2.1 < (3:Int))) then ((getI v.1 v.2.1).bind fun x3=>(bif (x3==(45:Int)) then (let x4:Int:=(IntKind.i64.wrap (v.2.1+(1:Int)));(self0 (v.1,x4,v.2.2.1,v.2.2.2))) else ((getI v.1 v.2.1).bind fun x5=>((cref06_Signed x5).bind fun x6=>(bif x6 then (bif (decide (0≤v.2.1)&&decide (v.2.1 < (3:Int))) then ((nth v.2.2.2 (Int.toNat v.2.1)).bind fun x7=>((cref02_Double x7).bind fun x8=>((cref02_Minimal x8).bind fun x9=>(bif (Nat.ble 1 1&&Nat.ble (List.length v.2.2.1+List.length x9) lim) then (let x10:Int:=(IntKind.i64.wrap (v.2.1+(1:Int)));(self0 (v.1,x10,(List.append v.2.2.1 x9),v.2.2.2))) else none)))) else none) else (bif (decide (0≤v.2.1)&&decide (v.2.1 < (3:Int))) then ((nth v.2.2.2 (Int.toNat v.2.1)).bind fun x11=>((cref02_Minimal (IntKind.u64.wrap x11)).bind fun x12=>(bif (Nat.ble 1 1&&Nat.ble (List.length v.2.2.1+List.length x12) lim) then (let x13:Y6:=(List.append v.2.2.1 x12);(let x14:Int:=(IntKind.i64.wrap (v.2.1+(1:Int)));(self0 (v.1,x14,x13,v.2.2.2)))) else none))) else none)))))) else (some v.2.2.1))
def gref06_Coded_0 (N:Nat) (self0:Y6×Int×Y6×Y6→Option (Y6)) (v:Y6×Int×Y6×Y6):Option (Y6):=href06_Coded_0 self0 v
theorem kz115_0 (N:Nat) (s0:St→Option (Y6)) (v):(floc (Ez115) Tz115 6 N Tryz.f66 [Z9] [true] [] 0 nowhereR) s0 (ez115_0 v)=href06_Coded_0 (fun v=>s0 (ez115_0 v)) v:=by kernel_rfl
theorem bz115_0 (N:Nat) (s0:St→Option (Y6)) (v):(floc (Ez115) Tz115 6 N Tryz.f66 [Z9] [true] [] 0 nowhereR) s0 (ez115_0 v)=gref06_Coded_0 N (fun v=>s0 (ez115_0 v)) v:=kz115_0 N s0 v
def nref06_Coded (loop0:Y6×Int×Y6×Y6→Option (Y6)) (x:Y8):Option (Y6):=
 ((cref06_Shape x.1).bind fun x1=>((cref06_Operands x).bind fun x2=>(loop0 (x1,(0:Int),([x.1]:Y6),x2))))
def mref06_Coded (N:Nat) (x:Y8):Option (Y6):=nref06_Coded (iterV (gref06_Coded_0 N) N) x
theorem jz115 (N:Nat) (x:Y8):rise (Ez115) Tz115 6 N Tryz.f66 [Z5] [Z9] [true] x=nref06_Coded (fun v=>iterR (floc (Ez115) Tz115 6 N Tryz.f66 [Z9] [true] [] 0 nowhereR) N (ez115_0 v)) x:=by kernel_rfl
theorem lz115 (N:Nat) (x:Y8):rise (Ez115) Tz115 6 N Tryz.f66 [Z5] [Z9] [true] x=mref06_Coded N x:=(jz115 N x).trans (by rw [funext (iterR_eq ez115_0 (bz115_0 N) N)];rfl)
def cref06_Coded (x:Y8):Option (Y6):=mref06_Coded big x
def Gz115:Fn2:=⟨[Z5],[Z9],[true],fun x=>cref06_Coded x⟩
theorem Lz115:Rises Tryz.prog 66 Gz115:=rises_of (E:=Ez115) ⟨tabOk,(fsCons2 Lz110 (fsCons2 Lz114 (fsCons2 Lz86 (fsCons2 Lz106 (fsCons2 Lz87 fsNil2))))),fun _ _ _=>rfl,mixed,inlNil,rcsNil,owsNil⟩ Tryz.func66 rfl (by decide) (by kernel_rfl) (by kernel_rfl) (by kernel_rfl) (by kernel_rfl) (fun x r _ h=>⟨Tz115,6,big,(lz115 big x).trans h⟩)
def Tz116:LT:={ live:=[(4,[0,3,4,5])],keep:=[] }
noncomputable def Ez116:Env2:={ tab:=tab,fs:=[(64,Gz110)],inl:=[] }
noncomputable def ez116_0 (v:Y11×Int×Int×Y6):St:={ s:=[(0,(.val ⟨(.slice Z6),v.1⟩)),(3,(.row 0)),(4,(.val ⟨Z3,v.2.1⟩)),(5,(.val ⟨Z3,v.2.2.1⟩))],l:=[(0,.row Z13 v.2.2.2)],k:=[],b:=4096 }
def href08_Coded_0 (self0:Y11×Int×Int×Y6→Option (Y6)) (v:Y11×Int×Int×Y6):Option (Y6):=
 (bif (decide (v.2.2.1 < (List.length v.1:Int))) then ((getI v.1 v.2.2.1).bind fun x3=>(let x4:Int:=(IntKind.i64.wrap (x3.1 - v.2.1));((cref02_Minimal (IntKind.u64.wrap x4)).bind fun x5=>(bif (Nat.ble 1 1&&Nat.ble (List.length v.2.2.2+List.length x5) lim) then ((getI v.1 v.2.2.1).bind fun x6=>((cref02_Minimal x6.2.1).bind fun x7=>(bif (Nat.ble 1 1&&Nat.ble (List.length (List.append v.2.2.2 x5)+List.length x7) lim) then (let x8:Y6:=(List.append (List.append v.2.2.2 x5) x7);((getI v.1 v.2.2.1).bind fun x9=>(let x10:Int:=(IntKind.i64.wrap (v.2.2.1+(1:Int)));(self0 (v.1,x9.1,x10,x8))))) else none))) else none)))) else (some v.2.2.2))
def gref08_Coded_0 (N:Nat) (self0:Y11×Int×Int×Y6→Option (Y6)) (v:Y11×Int×Int×Y6):Option (Y6):=href08_Coded_0 self0 v
theorem kz116_0 (N:Nat) (s0:St→Option (Y6)) (v):(floc (Ez116) Tz116 6 N Tryz.f67 [Z9] [true] [] 0 nowhereR) s0 (ez116_0 v)=href08_Coded_0 (fun v=>s0 (ez116_0 v)) v:=by kernel_rfl
theorem bz116_0 (N:Nat) (s0:St→Option (Y6)) (v):(floc (Ez116) Tz116 6 N Tryz.f67 [Z9] [true] [] 0 nowhereR) s0 (ez116_0 v)=gref08_Coded_0 N (fun v=>s0 (ez116_0 v)) v:=kz116_0 N s0 v
def nref08_Coded (loop0:Y11×Int×Int×Y6→Option (Y6)) (x:Y11):Option (Y6):=
 (let x1:Int:=(IntKind.u64.wrap (List.length x:Int));((cref02_Minimal x1).bind fun x2=>(loop0 (x,(0:Int),(0:Int),x2))))
def mref08_Coded (N:Nat) (x:Y11):Option (Y6):=nref08_Coded (iterV (gref08_Coded_0 N) N) x
theorem jz116 (N:Nat) (x:Y11):rise (Ez116) Tz116 6 N Tryz.f67 [(.slice Z6)] [Z9] [true] x=nref08_Coded (fun v=>iterR (floc (Ez116) Tz116 6 N Tryz.f67 [Z9] [true] [] 0 nowhereR) N (ez116_0 v)) x:=by kernel_rfl
theorem lz116 (N:Nat) (x:Y11):rise (Ez116) Tz116 6 N Tryz.f67 [(.slice Z6)] [Z9] [true] x=mref08_Coded N x:=(jz116 N x).trans (by rw [funext (iterR_eq ez116_0 (bz116_0 N) N)];rfl)
def cref08_Coded (x:Y11):Option (Y6):=mref08_Coded big x
def Gz116:Fn2:=⟨[(.slice Z6)],[Z9],[true],fun x=>cref08_Coded x⟩
theorem Lz116:Rises Tryz.prog 67 Gz116:=rises_of (E:=Ez116) ⟨tabOk,(fsCons2 Lz110 fsNil2),fun _ _ _=>rfl,mixed,inlNil,rcsNil,owsNil⟩ Tryz.func67 rfl (by decide) (by kernel_rfl) (by kernel_rfl) (by kernel_rfl) (by kernel_rfl) (fun x r _ h=>⟨Tz116,6,big,(lz116 big x).trans h⟩)
def Tz117:LT:={ live:=[(3,[1,3,4]),(17,[1,3,6]),(22,[1,3,7]),(29,[1,3,7,8,9])],keep:=[] }
noncomputable def Ez117:Env2:={ tab:=tab,fs:=[(61,Gz111),(62,Gz113),(63,Gz112),(64,Gz110),(65,Gz114),(66,Gz115),(67,Gz116)],inl:=[] }
noncomputable def ez117_3 (v:Int×Int×Y4×Y6×Y0):St:={ s:=[(1,(.loc 0 [])),(3,(.row 1)),(7,(.val ⟨Z3,v.1⟩)),(8,(.loc 2 [])),(9,(.val ⟨Z3,v.2.1⟩))],l:=[(0,.var Z4 (.val ⟨Z4,v.2.2.1⟩)),(1,.row Z13 v.2.2.2.1),(2,.var Z0 (.val ⟨Z0,v.2.2.2.2⟩))],k:=[],b:=4096 }
noncomputable def ez117_2 (v:Y31):St:={ s:=[(1,(.loc 0 [])),(3,(.row 1)),(7,(.val ⟨Z3,v.1⟩))],l:=[(0,.var Z4 (.val ⟨Z4,v.2.1⟩)),(1,.row Z13 v.2.2)],k:=[],b:=4096 }
noncomputable def ez117_1 (v:Y31):St:={ s:=[(1,(.loc 0 [])),(3,(.row 1)),(6,(.val ⟨Z3,v.1⟩))],l:=[(0,.var Z4 (.val ⟨Z4,v.2.1⟩)),(1,.row Z13 v.2.2)],k:=[],b:=4096 }
noncomputable def ez117_0 (v:Y31):St:={ s:=[(1,(.loc 0 [])),(3,(.row 1)),(4,(.val ⟨Z3,v.1⟩))],l:=[(0,.var Z4 (.val ⟨Z4,v.2.1⟩)),(1,.row Z13 v.2.2)],k:=[],b:=4096 }
def href09_Coded_3 (self0:Y31→Option (Y6)) (self1:Y31→Option (Y6)) (self2:Y31→Option (Y6)) (self3:Int×Int×Y4×Y6×Y0→Option (Y6)) (v:Int×Int×Y4×Y6×Y0):Option (Y6):=
 (bif (decide (v.2.1 < (List.length v.2.2.2.2.2.2.2.2.1:Int))) then ((getI v.2.2.2.2.2.2.2.2.1 v.2.1).bind fun x36=>((cref06_Coded x36).bind fun x37=>(bif (Nat.ble 1 1&&Nat.ble (List.length v.2.2.2.1+List.length x37) lim) then (let x38:Y6:=(List.append v.2.2.2.1 x37);(let x39:Int:=(IntKind.i64.wrap (v.2.1+(1:Int)));(self3 (v.1,x39,v.2.2.1,x38,v.2.2.2.2)))) else none))) else ((cref08_Coded v.2.2.2.2.2.2.2.2.2.1).bind fun x40=>(bif (Nat.ble 1 1&&Nat.ble (List.length v.2.2.2.1+List.length x40) lim) then (let x41:Y6:=(List.append v.2.2.2.1 x40);((cref08_Coded v.2.2.2.2.2.2.2.2.2.2.1).bind fun x42=>(bif (Nat.ble 1 1&&Nat.ble (List.length x41+List.length x42) lim) then (let x43:Int:=(IntKind.i64.wrap (v.1+(1:Int)));(self2 (x43,v.2.2.1,(List.append x41 x42)))) else none))) else none)))
def gref09_Coded_3 (N:Nat) (self0:Y31→Option (Y6)) (self1:Y31→Option (Y6)) (self2:Y31→Option (Y6)) (self3:Int×Int×Y4×Y6×Y0→Option (Y6)) (v:Int×Int×Y4×Y6×Y0):Option (Y6):=href09_Coded_3 self0 self1 self2 self3 v
theorem kz117_3 (N:Nat) (s0:St→Option (Y6)) (s1:St→Option (Y6)) (s2:St→Option (Y6)) (s3:St→Option (Y6)) (v):(floc (Ez117) Tz117 6 N Tryz.f35 [Z9] [true] [] 3 (outerR s2 nowhereR)) s3 (ez117_3 v)=href09_Coded_3 (fun v=>s0 (ez117_0 v)) (fun v=>s1 (ez117_1 v)) (fun v=>s2 (ez117_2 v)) (fun v=>s3 (ez117_3 v)) v:=by kernel_rfl
theorem bz117_3 (N:Nat) (s0:St→Option (Y6)) (s1:St→Option (Y6)) (s2:St→Option (Y6)) (s3:St→Option (Y6)) (v):(floc (Ez117) Tz117 6 N Tryz.f35 [Z9] [true] [] 3 (outerR s2 nowhereR)) s3 (ez117_3 v)=gref09_Coded_3 N (fun v=>s0 (ez117_0 v)) (fun v=>s1 (ez117_1 v)) (fun v=>s2 (ez117_2 v)) (fun v=>s3 (ez117_3 v)) v:=kz117_3 N s0 s1 s2 s3 v
def href09_Coded_2 (loop3:Int×Int×Y4×Y6×Y0→Option (Y6)) (self0:Y31→Option (Y6)) (self1:Y31→Option (Y6)) (self2:Y31→Option (Y6)) (v:Y31):Option (Y6):=
 (bif (decide (v.1 < (List.length v.2.1.2.2.1:Int))) then ((getI v.2.1.2.2.1 v.1).bind fun x27=>((cref02_Said x27.1).bind fun x28=>(bif (Nat.ble 1 1&&Nat.ble (List.length v.2.2+List.length x28) lim) then ((cref09_number x27.2.1).bind fun x29=>(bif (Nat.ble 1 1&&Nat.ble (List.length (List.append v.2.2 x28)+List.length x29) lim) then (let x30:Y6:=(List.append (List.append v.2.2 x28) x29);((cref02_Double x27.2.2.1).bind fun x31=>((cref02_Minimal x31).bind fun x32=>(bif (Nat.ble 1 1&&Nat.ble (List.length x30+List.length x32) lim) then ((cref09_fields x27.2.2.2.1).bind fun x33=>(bif (Nat.ble 1 1&&Nat.ble (List.length (List.append x30 x32)+List.length x33) lim) then (let x34:Y6:=(List.append (List.append x30 x32) x33);((cref09_number (List.length x27.2.2.2.2.1:Int)).bind fun x35=>(bif (Nat.ble 1 1&&Nat.ble (List.length x34+List.length x35) lim) then (loop3 (v.1,(0:Int),v.2.1,(List.append x34 x35),x27)) else none))) else none)) else none)))) else none)) else none))) else (some v.2.2))
def gref09_Coded_2 (N:Nat) (self0:Y31→Option (Y6)) (self1:Y31→Option (Y6)) (self2:Y31→Option (Y6)) (v:Y31):Option (Y6):=href09_Coded_2 (iterV (gref09_Coded_3 N self0 self1 self2) N) self0 self1 self2 v
theorem kz117_2 (N:Nat) (s0:St→Option (Y6)) (s1:St→Option (Y6)) (s2:St→Option (Y6)) (v):(floc (Ez117) Tz117 6 N Tryz.f35 [Z9] [true] [] 2 nowhereR) s2 (ez117_2 v)=href09_Coded_2 (fun v=>iterR (floc (Ez117) Tz117 6 N Tryz.f35 [Z9] [true] [] 3 (outerR s2 nowhereR)) N (ez117_3 v)) (fun v=>s0 (ez117_0 v)) (fun v=>s1 (ez117_1 v)) (fun v=>s2 (ez117_2 v)) v:=by kernel_rfl
theorem bz117_2 (N:Nat) (s0:St→Option (Y6)) (s1:St→Option (Y6)) (s2:St→Option (Y6)) (v):(floc (Ez117) Tz117 6 N Tryz.f35 [Z9] [true] [] 2 nowhereR) s2 (ez117_2 v)=gref09_Coded_2 N (fun v=>s0 (ez117_0 v)) (fun v=>s1 (ez117_1 v)) (fun v=>s2 (ez117_2 v)) v:=(kz117_2 N s0 s1 s2 v).trans (by rw [funext (iterR_eq ez117_3 (bz117_3 N s0 s1 s2) N)];rfl)
def href09_Coded_1 (loop2:Y31→Option (Y6)) (self0:Y31→Option (Y6)) (self1:Y31→Option (Y6)) (v:Y31):Option (Y6):=
 (bif (decide (v.1 < (List.length v.2.1.2.1:Int))) then ((getI v.2.1.2.1 v.1).bind fun x23=>((cref02_Said x23).bind fun x24=>(bif (Nat.ble 1 1&&Nat.ble (List.length v.2.2+List.length x24) lim) then (let x25:Int:=(IntKind.i64.wrap (v.1+(1:Int)));(self1 (x25,v.2.1,(List.append v.2.2 x24)))) else none))) else ((cref09_number (List.length v.2.1.2.2.1:Int)).bind fun x26=>(bif (Nat.ble 1 1&&Nat.ble (List.length v.2.2+List.length x26) lim) then (loop2 ((0:Int),v.2.1,(List.append v.2.2 x26))) else none)))
def gref09_Coded_1 (N:Nat) (self0:Y31→Option (Y6)) (self1:Y31→Option (Y6)) (v:Y31):Option (Y6):=href09_Coded_1 (iterV (gref09_Coded_2 N self0 self1) N) self0 self1 v
theorem kz117_1 (N:Nat) (s0:St→Option (Y6)) (s1:St→Option (Y6)) (v):(floc (Ez117) Tz117 6 N Tryz.f35 [Z9] [true] [] 1 nowhereR) s1 (ez117_1 v)=href09_Coded_1 (fun v=>iterR (floc (Ez117) Tz117 6 N Tryz.f35 [Z9] [true] [] 2 nowhereR) N (ez117_2 v)) (fun v=>s0 (ez117_0 v)) (fun v=>s1 (ez117_1 v)) v:=by kernel_rfl
theorem bz117_1 (N:Nat) (s0:St→Option (Y6)) (s1:St→Option (Y6)) (v):(floc (Ez117) Tz117 6 N Tryz.f35 [Z9] [true] [] 1 nowhereR) s1 (ez117_1 v)=gref09_Coded_1 N (fun v=>s0 (ez117_0 v)) (fun v=>s1 (ez117_1 v)) v:=(kz117_1 N s0 s1 v).trans (by rw [funext (iterR_eq ez117_2 (bz117_2 N s0 s1) N)];rfl)
def href09_Coded_0 (loop1:Y31→Option (Y6)) (self0:Y31→Option (Y6)) (v:Y31):Option (Y6):=
 (bif (decide (v.1 < (List.length v.2.1.1:Int))) then ((getI v.2.1.1 v.1).bind fun x2=>(bif (Nat.ble 1 1&&Nat.ble (List.length v.2.2+List.length ([x2.1]:Y6)) lim) then (let x3:Y6:=(List.append v.2.2 ([x2.1]:Y6));(bif (x2.1==(4:Int)) then (bif (x2.1==(4:Int)) then ((cref09_number x2.2.1).bind fun x4=>(bif (Nat.ble 1 1&&Nat.ble (List.length x3+List.length x4) lim) then (let x5:Int:=(IntKind.i64.wrap (v.1+(1:Int)));(self0 (x5,v.2.1,(List.append x3 x4)))) else none)) else (bif (x2.1==(6:Int)) then ((cref09_number x2.2.1).bind fun x6=>(bif (Nat.ble 1 1&&Nat.ble (List.length x3+List.length x6) lim) then ((cref09_number x2.2.2.1).bind fun x7=>(bif (Nat.ble 1 1&&Nat.ble (List.length (List.append x3 x6)+List.length x7) lim) then (let x8:Y6:=(List.append (List.append x3 x6) x7);(let x9:Int:=(IntKind.i64.wrap (v.1+(1:Int)));(self0 (x9,v.2.1,x8)))) else none)) else none)) else (bif (x2.1==(5:Int)) then ((cref09_fields x2.2.2.2.1).bind fun x10=>(bif (Nat.ble 1 1&&Nat.ble (List.length x3+List.length x10) lim) then (let x11:Int:=(IntKind.i64.wrap (v.1+(1:Int)));(self0 (x11,v.2.1,(List.append x3 x10)))) else none)) else (let x12:Int:=(IntKind.i64.wrap (v.1+(1:Int)));(self0 (x12,v.2.1,x3)))))) else (bif (x2.1==(7:Int)) then ((cref09_number x2.2.1).bind fun x13=>(bif (Nat.ble 1 1&&Nat.ble (List.length x3+List.length x13) lim) then (let x14:Int:=(IntKind.i64.wrap (v.1+(1:Int)));(self0 (x14,v.2.1,(List.append x3 x13)))) else none)) else (bif (x2.1==(6:Int)) then ((cref09_number x2.2.1).bind fun x15=>(bif (Nat.ble 1 1&&Nat.ble (List.length x3+List.length x15) lim) then ((cref09_number x2.2.2.1).bind fun x16=>(bif (Nat.ble 1 1&&Nat.ble (List.length (List.append x3 x15)+List.length x16) lim) then (let x17:Y6:=(List.append (List.append x3 x15) x16);(let x18:Int:=(IntKind.i64.wrap (v.1+(1:Int)));(self0 (x18,v.2.1,x17)))) else none)) else none)) else (bif (x2.1==(5:Int)) then ((cref09_fields x2.2.2.2.1).bind fun x19=>(bif (Nat.ble 1 1&&Nat.ble (List.length x3+List.length x19) lim) then (let x20:Int:=(IntKind.i64.wrap (v.1+(1:Int)));(self0 (x20,v.2.1,(List.append x3 x19)))) else none)) else (let x21:Int:=(IntKind.i64.wrap (v.1+(1:Int)));(self0 (x21,v.2.1,x3)))))))) else none)) else ((cref09_number (List.length v.2.1.2.1:Int)).bind fun x22=>(bif (Nat.ble 1 1&&Nat.ble (List.length v.2.2+List.length x22) lim) then (loop1 ((0:Int),v.2.1,(List.append v.2.2 x22))) else none)))
def gref09_Coded_0 (N:Nat) (self0:Y31→Option (Y6)) (v:Y31):Option (Y6):=href09_Coded_0 (iterV (gref09_Coded_1 N self0) N) self0 v
theorem kz117_0 (N:Nat) (s0:St→Option (Y6)) (v):(floc (Ez117) Tz117 6 N Tryz.f35 [Z9] [true] [] 0 nowhereR) s0 (ez117_0 v)=href09_Coded_0 (fun v=>iterR (floc (Ez117) Tz117 6 N Tryz.f35 [Z9] [true] [] 1 nowhereR) N (ez117_1 v)) (fun v=>s0 (ez117_0 v)) v:=by kernel_rfl
theorem bz117_0 (N:Nat) (s0:St→Option (Y6)) (v):(floc (Ez117) Tz117 6 N Tryz.f35 [Z9] [true] [] 0 nowhereR) s0 (ez117_0 v)=gref09_Coded_0 N (fun v=>s0 (ez117_0 v)) v:=(kz117_0 N s0 v).trans (by rw [funext (iterR_eq ez117_1 (bz117_1 N s0) N)];rfl)
def nref09_Coded (loop0:Y31→Option (Y6)) (x:Y4):Option (Y6):=
 ((cref09_number (List.length x.1:Int)).bind fun x1=>(loop0 ((0:Int),x,x1)))
def mref09_Coded (N:Nat) (x:Y4):Option (Y6):=nref09_Coded (iterV (gref09_Coded_0 N) N) x
theorem jz117 (N:Nat) (x:Y4):rise (Ez117) Tz117 6 N Tryz.f35 [Z4] [Z9] [true] x=nref09_Coded (fun v=>iterR (floc (Ez117) Tz117 6 N Tryz.f35 [Z9] [true] [] 0 nowhereR) N (ez117_0 v)) x:=by kernel_rfl
theorem lz117 (N:Nat) (x:Y4):rise (Ez117) Tz117 6 N Tryz.f35 [Z4] [Z9] [true] x=mref09_Coded N x:=(jz117 N x).trans (by rw [funext (iterR_eq ez117_0 (bz117_0 N) N)];rfl)
def cref09_Coded (x:Y4):Option (Y6):=mref09_Coded big x
def Gz117:Fn2:=⟨[Z4],[Z9],[true],fun x=>cref09_Coded x⟩
theorem Lz117:Rises Tryz.prog 35 Gz117:=rises_of (E:=Ez117) ⟨tabOk,(fsCons2 Lz111 (fsCons2 Lz113 (fsCons2 Lz112 (fsCons2 Lz110 (fsCons2 Lz114 (fsCons2 Lz115 (fsCons2 Lz116 fsNil2))))))),fun _ _ _=>rfl,mixed,inlNil,rcsNil,owsNil⟩ Tryz.func35 rfl (by decide) (by kernel_rfl) (by kernel_rfl) (by kernel_rfl) (by kernel_rfl) (fun x r _ h=>⟨Tz117,6,big,(lz117 big x).trans h⟩)
def Tz118:LT:={ live:=[(7,[0,2,4,5,6,7]),(12,[0,2,4,5,6,8]),(17,[0,2,4,5,6,9])],keep:=[] }
@[reducible] def Pz77 (me:Y13→Y9→Option Y19):RecC:=⟨[.fix (.loc 0 []),.hole Z3],[.var Z7 (.hole Z7)],0,[Z3],me⟩
noncomputable def Ez77 (me:Y13→Y9→Option Y19):Env2:={ tab:=tab,fs:=[(71,Gz76)],inl:=[],rcs:=[(39,Pz77 me)] }
def nref09_reader_number (me:Y13→Y9→Option Y19) (y:Y9) (x:Y13):Option Y19:=
 (bif y.1.2.1 then (some (y.1,(0:Int))) else ((cref02_Unvary (y.1.1,(IntKind.u64.wrap x.2.1))).bind fun x1=>(bif (x1.2.2 != (0:Int)) then (some ((y.1.1,(true,y.1.2.2)),(0:Int))) else (let x2:Int:=(IntKind.i64.wrap x1.2.1);(some ((x1.1,y.1.2),x2))))))
def mref09_reader_number (me:Y13→Y9→Option Y19) (y:Y9) (N:Nat) (x:Y13):Option Y19:=nref09_reader_number me y x
theorem jz77 (me:Y13→Y9→Option Y19) (y:Y9) (N:Nat) (x:Y13):riseR (Ez77 me) Tz77 6 N Tryz.f39 (Pz77 me) x y=nref09_reader_number me y x:=by kernel_rfl
theorem lz77 (me:Y13→Y9→Option Y19) (y:Y9) (N:Nat) (x:Y13):riseR (Ez77 me) Tz77 6 N Tryz.f39 (Pz77 me) x y=mref09_reader_number me y N x:=(jz77 me y N x).trans rfl
def rref09_reader_number:Nat→Y13→Y9→Option Y19
 | 0,_,_=>none
 | k+1,x,y=>mref09_reader_number (rref09_reader_number k) y big x
def cref09_reader_number (x:Y13) (y:Y9):Option Y19:=rref09_reader_number big x y
@[reducible] def Cz77:RecC:=Pz77 cref09_reader_number
theorem Rz77:∀ k,RecOk Tryz.prog 39 (Pz77 (rref09_reader_number k))
 | 0=>rec_none Tryz.func39 rfl (by decide)
 | k+1=>by
  have ih:=Rz77 k
  exact rec_of (E:=Ez77 (rref09_reader_number k)) ⟨tabOk,(fsCons2 Lz76 fsNil2),fun _ _ _=>rfl,mixed,inlNil,rcsCons ih rcsNil,owsNil⟩ Tryz.func39 rfl (by decide) (by kernel_rfl) (by kernel_rfl) (by kernel_rfl) (fun x y r h=>⟨Tz77,6,big,(lz77 (rref09_reader_number k) y big x).trans h⟩)
theorem Lz77:RecOk Tryz.prog 39 Cz77:=Rz77 big
@[reducible] def Pz78 (me:Y10→Y9→Option Y19):RecC:=⟨[.fix (.loc 0 [])],[.var Z7 (.hole Z7)],0,[Z13],me⟩
noncomputable def Ez78 (me:Y10→Y9→Option Y19):Env2:={ tab:=tab,fs:=[],inl:=[],rcs:=[(72,Pz78 me)] }
def nref09_reader_octet (me:Y10→Y9→Option Y19) (y:Y9) (x:Y10):Option Y19:=
 (bif y.1.2.1 then (some ((y.1.1,(true,y.1.2.2)),(0:Int))) else (bif (y.1.1.2.1==(List.length y.1.1.1:Int)) then (some ((y.1.1,(true,y.1.2.2)),(0:Int))) else ((getI y.1.1.1 y.1.1.2.1).bind fun x1=>(let x2:Int:=(IntKind.i64.wrap (y.1.1.2.1+(1:Int)));(let x3:Y3:=((y.1.1.1,(x2,y.1.1.2.2)),y.1.2);(some (x3,x1)))))))
def mref09_reader_octet (me:Y10→Y9→Option Y19) (y:Y9) (N:Nat) (x:Y10):Option Y19:=nref09_reader_octet me y x
theorem jz78 (me:Y10→Y9→Option Y19) (y:Y9) (N:Nat) (x:Y10):riseR (Ez78 me) Tz78 6 N Tryz.f72 (Pz78 me) x y=nref09_reader_octet me y x:=by kernel_rfl
theorem lz78 (me:Y10→Y9→Option Y19) (y:Y9) (N:Nat) (x:Y10):riseR (Ez78 me) Tz78 6 N Tryz.f72 (Pz78 me) x y=mref09_reader_octet me y N x:=(jz78 me y N x).trans rfl
def rref09_reader_octet:Nat→Y10→Y9→Option Y19
 | 0,_,_=>none
 | k+1,x,y=>mref09_reader_octet (rref09_reader_octet k) y big x
def cref09_reader_octet (x:Y10) (y:Y9):Option Y19:=rref09_reader_octet big x y
@[reducible] def Cz78:RecC:=Pz78 cref09_reader_octet
theorem Rz78:∀ k,RecOk Tryz.prog 72 (Pz78 (rref09_reader_octet k))
 | 0=>rec_none Tryz.func72 rfl (by decide)
 | k+1=>by
  have ih:=Rz78 k
  exact rec_of (E:=Ez78 (rref09_reader_octet k)) ⟨tabOk,fsNil2,fun _ _ _=>rfl,mixed,inlNil,rcsCons ih rcsNil,owsNil⟩ Tryz.func72 rfl (by decide) (by kernel_rfl) (by kernel_rfl) (by kernel_rfl) (fun x y r h=>⟨Tz78,6,big,(lz78 (rref09_reader_octet k) y big x).trans h⟩)
theorem Lz78:RecOk Tryz.prog 72 Cz78:=Rz78 big
@[reducible] def Pz80 (me:Y13→Y9→Option (Y3×Y6)):RecC:=⟨[.fix (.loc 0 []),.hole Z3],[.var Z7 (.hole Z7)],0,[.str],me⟩
noncomputable def Ez80 (me:Y13→Y9→Option (Y3×Y6)):Env2:={ tab:=tab,fs:=[(74,Gz79)],inl:=[],rcs:=[(41,Pz80 me)] }
def nref09_reader_said (me:Y13→Y9→Option (Y3×Y6)) (y:Y9) (x:Y13):Option (Y3×Y6):=
 (bif y.1.2.1 then (some (y.1,([]:List Int))) else ((cref02_Untext (y.1.1,x.2.1)).bind fun x1=>(bif (x1.2.2 != (0:Int)) then (some ((y.1.1,(true,y.1.2.2)),([]:List Int))) else (some ((x1.1,y.1.2),x1.2.1)))))
def mref09_reader_said (me:Y13→Y9→Option (Y3×Y6)) (y:Y9) (N:Nat) (x:Y13):Option (Y3×Y6):=nref09_reader_said me y x
theorem jz80 (me:Y13→Y9→Option (Y3×Y6)) (y:Y9) (N:Nat) (x:Y13):riseR (Ez80 me) Tz80 6 N Tryz.f41 (Pz80 me) x y=nref09_reader_said me y x:=by kernel_rfl
theorem lz80 (me:Y13→Y9→Option (Y3×Y6)) (y:Y9) (N:Nat) (x:Y13):riseR (Ez80 me) Tz80 6 N Tryz.f41 (Pz80 me) x y=mref09_reader_said me y N x:=(jz80 me y N x).trans rfl
def rref09_reader_said:Nat→Y13→Y9→Option (Y3×Y6)
 | 0,_,_=>none
 | k+1,x,y=>mref09_reader_said (rref09_reader_said k) y big x
def cref09_reader_said (x:Y13) (y:Y9):Option (Y3×Y6):=rref09_reader_said big x y
@[reducible] def Cz80:RecC:=Pz80 cref09_reader_said
theorem Rz80:∀ k,RecOk Tryz.prog 41 (Pz80 (rref09_reader_said k))
 | 0=>rec_none Tryz.func41 rfl (by decide)
 | k+1=>by
  have ih:=Rz80 k
  exact rec_of (E:=Ez80 (rref09_reader_said k)) ⟨tabOk,(fsCons2 Lz79 fsNil2),fun _ _ _=>rfl,mixed,inlNil,rcsCons ih rcsNil,owsNil⟩ Tryz.func41 rfl (by decide) (by kernel_rfl) (by kernel_rfl) (by kernel_rfl) (fun x y r h=>⟨Tz80,6,big,(lz80 (rref09_reader_said k) y big x).trans h⟩)
theorem Lz80:RecOk Tryz.prog 41 Cz80:=Rz80 big
@[reducible] def Pz81 (me:Y10→Y9→Option (Y3×Y12)):RecC:=⟨[.fix (.loc 0 [])],[.var Z7 (.hole Z7)],0,[(.slice Z8)],me⟩
noncomputable def Ez81 (me:Y10→Y9→Option (Y3×Y12)):Env2:={ tab:=tab,fs:=[],inl:=[],rcs:=[(39,Cz77),(41,Cz80),(73,Pz81 me)] }
noncomputable def ez81_0 (v:Int×Int×Y3×Y12):St:={ s:=[(0,(.loc 0 [])),(3,(.row 1)),(4,(.val ⟨Z3,v.1⟩)),(5,(.val ⟨Z3,v.2.1⟩))],l:=[(0,.var Z7 (.val ⟨Z7,v.2.2.1⟩)),(1,.row Z8 v.2.2.2)],k:=[(0,[(0,(.loc 0 []))])],b:=4096 }
def href09_reader_fields_0 (me:Y10→Y9→Option (Y3×Y12)) (y:Y9) (self0:Int×Int×Y3×Y12→Option (Y3×Y12)) (v:Int×Int×Y3×Y12):Option (Y3×Y12):=
 (bif (decide (v.2.1 < v.1)) then (bif (!v.2.2.1.2.1) then ((cref09_reader_said ((),((100:Int),())) (v.2.2.1,())).bind fun x2=>((cref09_reader_number ((),((100:Int),())) (x2.1,())).bind fun x3=>(let x4:Y12:=([(x2.2,(x3.2,()))]:Y12);(bif (Nat.ble 1 2&&Nat.ble (List.length v.2.2.2+List.length x4) lim) then (let x5:Int:=(IntKind.i64.wrap (v.2.1+(1:Int)));(self0 (v.1,x5,x3.1,(List.append v.2.2.2 x4)))) else none)))) else (some (v.2.2.1,v.2.2.2))) else (some (v.2.2.1,v.2.2.2)))
def gref09_reader_fields_0 (me:Y10→Y9→Option (Y3×Y12)) (y:Y9) (N:Nat) (self0:Int×Int×Y3×Y12→Option (Y3×Y12)) (v:Int×Int×Y3×Y12):Option (Y3×Y12):=href09_reader_fields_0 me y self0 v
theorem kz81_0 (me:Y10→Y9→Option (Y3×Y12)) (y:Y9) (N:Nat) (s0:St→Option (Y3×Y12)) (v):(flocR (Ez81 me) Tz81 6 N Tryz.f73 (Pz81 me) y [] 0 nowhereR) s0 (ez81_0 v)=href09_reader_fields_0 me y (fun v=>s0 (ez81_0 v)) v:=by kernel_rfl
theorem bz81_0 (me:Y10→Y9→Option (Y3×Y12)) (y:Y9) (N:Nat) (s0:St→Option (Y3×Y12)) (v):(flocR (Ez81 me) Tz81 6 N Tryz.f73 (Pz81 me) y [] 0 nowhereR) s0 (ez81_0 v)=gref09_reader_fields_0 me y N (fun v=>s0 (ez81_0 v)) v:=kz81_0 me y N s0 v
def nref09_reader_fields (me:Y10→Y9→Option (Y3×Y12)) (y:Y9) (loop0:Int×Int×Y3×Y12→Option (Y3×Y12)) (x:Y10):Option (Y3×Y12):=
 ((cref09_reader_number ((),((100:Int),())) (y.1,())).bind fun x1=>(loop0 (x1.2,(0:Int),x1.1,([]:List Y1))))
def mref09_reader_fields (me:Y10→Y9→Option (Y3×Y12)) (y:Y9) (N:Nat) (x:Y10):Option (Y3×Y12):=nref09_reader_fields me y (iterV (gref09_reader_fields_0 me y N) N) x
theorem jz81 (me:Y10→Y9→Option (Y3×Y12)) (y:Y9) (N:Nat) (x:Y10):riseR (Ez81 me) Tz81 6 N Tryz.f73 (Pz81 me) x y=nref09_reader_fields me y (fun v=>iterR (flocR (Ez81 me) Tz81 6 N Tryz.f73 (Pz81 me) y [] 0 nowhereR) N (ez81_0 v)) x:=by kernel_rfl
theorem lz81 (me:Y10→Y9→Option (Y3×Y12)) (y:Y9) (N:Nat) (x:Y10):riseR (Ez81 me) Tz81 6 N Tryz.f73 (Pz81 me) x y=mref09_reader_fields me y N x:=(jz81 me y N x).trans (by rw [funext (iterR_eq ez81_0 (bz81_0 me y N) N)];rfl)
def rref09_reader_fields:Nat→Y10→Y9→Option (Y3×Y12)
 | 0,_,_=>none
 | k+1,x,y=>mref09_reader_fields (rref09_reader_fields k) y big x
def cref09_reader_fields (x:Y10) (y:Y9):Option (Y3×Y12):=rref09_reader_fields big x y
@[reducible] def Cz81:RecC:=Pz81 cref09_reader_fields
theorem Rz81:∀ k,RecOk Tryz.prog 73 (Pz81 (rref09_reader_fields k))
 | 0=>rec_none Tryz.func73 rfl (by decide)
 | k+1=>by
  have ih:=Rz81 k
  exact rec_of (E:=Ez81 (rref09_reader_fields k)) ⟨tabOk,fsNil2,fun _ _ _=>rfl,mixed,inlNil,rcsCons Lz77 (rcsCons Lz80 (rcsCons ih rcsNil)),owsNil⟩ Tryz.func73 rfl (by decide) (by kernel_rfl) (by kernel_rfl) (by kernel_rfl) (fun x y r h=>⟨Tz81,6,big,(lz81 (rref09_reader_fields k) y big x).trans h⟩)
theorem Lz81:RecOk Tryz.prog 73 Cz81:=Rz81 big
@[reducible] def Pz82 (me:Y10→Y9→Option (Y3×Y7)):RecC:=⟨[.fix (.loc 0 [])],[.var Z7 (.hole Z7)],0,[Z1],me⟩
noncomputable def Ez82 (me:Y10→Y9→Option (Y3×Y7)):Env2:={ tab:=tab,fs:=[],inl:=[],rcs:=[(39,Cz77),(72,Cz78),(73,Cz81),(40,Pz82 me)] }
def nref09_reader_kind (me:Y10→Y9→Option (Y3×Y7)) (y:Y9) (x:Y10):Option (Y3×Y7):=
 ((cref09_reader_octet ((),()) (y.1,())).bind fun x1=>(let x2:Y7:=(x1.2,((0:Int),((0:Int),(([]:Y12),()))));(bif (x2.1==(4:Int)) then (bif (x2.1==(4:Int)) then ((cref09_reader_number ((),((100:Int),())) (x1.1,())).bind fun x3=>(some (x3.1,(x2.1,(x3.2,x2.2.2))))) else (bif (x2.1==(6:Int)) then ((cref09_reader_number ((),((100:Int),())) (x1.1,())).bind fun x4=>((cref09_reader_number ((),((100:Int),())) (x4.1,())).bind fun x5=>(let x6:Y7:=((x2.1,(x4.2,x2.2.2)).1,((x2.1,(x4.2,x2.2.2)).2.1,(x5.2,(x2.1,(x4.2,x2.2.2)).2.2.2)));(some (x5.1,x6))))) else (bif (x2.1==(5:Int)) then ((cref09_reader_fields ((),()) (x1.1,())).bind fun x7=>(let x8:Y7:=(x2.1,(x2.2.1,(x2.2.2.1,(x7.2,x2.2.2.2.2))));(some (x7.1,x8)))) else (some (x1.1,x2))))) else (bif (x2.1==(7:Int)) then ((cref09_reader_number ((),((100:Int),())) (x1.1,())).bind fun x9=>(some (x9.1,(x2.1,(x9.2,x2.2.2))))) else (bif (x2.1==(6:Int)) then ((cref09_reader_number ((),((100:Int),())) (x1.1,())).bind fun x10=>((cref09_reader_number ((),((100:Int),())) (x10.1,())).bind fun x11=>(let x12:Y7:=((x2.1,(x10.2,x2.2.2)).1,((x2.1,(x10.2,x2.2.2)).2.1,(x11.2,(x2.1,(x10.2,x2.2.2)).2.2.2)));(some (x11.1,x12))))) else (bif (x2.1==(5:Int)) then ((cref09_reader_fields ((),()) (x1.1,())).bind fun x13=>(let x14:Y7:=(x2.1,(x2.2.1,(x2.2.2.1,(x13.2,x2.2.2.2.2))));(some (x13.1,x14)))) else (some (x1.1,x2))))))))
def mref09_reader_kind (me:Y10→Y9→Option (Y3×Y7)) (y:Y9) (N:Nat) (x:Y10):Option (Y3×Y7):=nref09_reader_kind me y x
theorem jz82 (me:Y10→Y9→Option (Y3×Y7)) (y:Y9) (N:Nat) (x:Y10):riseR (Ez82 me) Tz82 6 N Tryz.f40 (Pz82 me) x y=nref09_reader_kind me y x:=by kernel_rfl
theorem lz82 (me:Y10→Y9→Option (Y3×Y7)) (y:Y9) (N:Nat) (x:Y10):riseR (Ez82 me) Tz82 6 N Tryz.f40 (Pz82 me) x y=mref09_reader_kind me y N x:=(jz82 me y N x).trans rfl
def rref09_reader_kind:Nat→Y10→Y9→Option (Y3×Y7)
 | 0,_,_=>none
 | k+1,x,y=>mref09_reader_kind (rref09_reader_kind k) y big x
def cref09_reader_kind (x:Y10) (y:Y9):Option (Y3×Y7):=rref09_reader_kind big x y
@[reducible] def Cz82:RecC:=Pz82 cref09_reader_kind
theorem Rz82:∀ k,RecOk Tryz.prog 40 (Pz82 (rref09_reader_kind k))
 | 0=>rec_none Tryz.func40 rfl (by decide)
 | k+1=>by
  have ih:=Rz82 k
  exact rec_of (E:=Ez82 (rref09_reader_kind k)) ⟨tabOk,fsNil2,fun _ _ _=>rfl,mixed,inlNil,rcsCons Lz77 (rcsCons Lz78 (rcsCons Lz81 (rcsCons ih rcsNil))),owsNil⟩ Tryz.func40 rfl (by decide) (by kernel_rfl) (by kernel_rfl) (by kernel_rfl) (fun x y r h=>⟨Tz82,6,big,(lz82 (rref09_reader_kind k) y big x).trans h⟩)
theorem Lz82:RecOk Tryz.prog 40 Cz82:=Rz82 big
@[reducible] def Pz85 (me:Y10→Y9→Option Y19):RecC:=⟨[.fix (.loc 0 [])],[.var Z7 (.hole Z7)],0,[Z3],me⟩
noncomputable def Ez85 (me:Y10→Y9→Option Y19):Env2:={ tab:=tab,fs:=[(113,Gz84)],inl:=[],rcs:=[(75,Pz85 me)] }
def nref09_reader_signed (me:Y10→Y9→Option Y19) (y:Y9) (x:Y10):Option Y19:=
 (bif y.1.2.1 then (some (y.1,(0:Int))) else ((cref02_Unsigned y.1.1).bind fun x1=>(bif (x1.2.2 != (0:Int)) then (some ((y.1.1,(true,y.1.2.2)),(0:Int))) else (some ((x1.1,y.1.2),x1.2.1)))))
def mref09_reader_signed (me:Y10→Y9→Option Y19) (y:Y9) (N:Nat) (x:Y10):Option Y19:=nref09_reader_signed me y x
theorem jz85 (me:Y10→Y9→Option Y19) (y:Y9) (N:Nat) (x:Y10):riseR (Ez85 me) Tz85 6 N Tryz.f75 (Pz85 me) x y=nref09_reader_signed me y x:=by kernel_rfl
theorem lz85 (me:Y10→Y9→Option Y19) (y:Y9) (N:Nat) (x:Y10):riseR (Ez85 me) Tz85 6 N Tryz.f75 (Pz85 me) x y=mref09_reader_signed me y N x:=(jz85 me y N x).trans rfl
def rref09_reader_signed:Nat→Y10→Y9→Option Y19
 | 0,_,_=>none
 | k+1,x,y=>mref09_reader_signed (rref09_reader_signed k) y big x
def cref09_reader_signed (x:Y10) (y:Y9):Option Y19:=rref09_reader_signed big x y
@[reducible] def Cz85:RecC:=Pz85 cref09_reader_signed
theorem Rz85:∀ k,RecOk Tryz.prog 75 (Pz85 (rref09_reader_signed k))
 | 0=>rec_none Tryz.func75 rfl (by decide)
 | k+1=>by
  have ih:=Rz85 k
  exact rec_of (E:=Ez85 (rref09_reader_signed k)) ⟨tabOk,(fsCons2 Lz84 fsNil2),fun _ _ _=>rfl,mixed,inlNil,rcsCons ih rcsNil,owsNil⟩ Tryz.func75 rfl (by decide) (by kernel_rfl) (by kernel_rfl) (by kernel_rfl) (fun x y r h=>⟨Tz85,6,big,(lz85 (rref09_reader_signed k) y big x).trans h⟩)
theorem Lz85:RecOk Tryz.prog 75 Cz85:=Rz85 big
@[reducible] def Pz94 (me:Y13→Y9→Option (Y3×Y11)):RecC:=⟨[.fix (.loc 0 []),.hole Z3],[.var Z7 (.hole Z7)],0,[(.slice Z6)],me⟩
noncomputable def Ez94 (me:Y13→Y9→Option (Y3×Y11)):Env2:={ tab:=tab,fs:=[(115,Gz93)],inl:=[],rcs:=[(77,Pz94 me)] }
def nref09_reader_runs (me:Y13→Y9→Option (Y3×Y11)) (y:Y9) (x:Y13):Option (Y3×Y11):=
 (bif y.1.2.1 then (some (y.1,([]:List Y5))) else ((cref08_Decode (y.1.1,x.2.1)).bind fun x1=>(bif (x1.2.2 != (0:Int)) then (some ((y.1.1,(true,y.1.2.2)),([]:List Y5))) else (some ((x1.1,y.1.2),x1.2.1)))))
def mref09_reader_runs (me:Y13→Y9→Option (Y3×Y11)) (y:Y9) (N:Nat) (x:Y13):Option (Y3×Y11):=nref09_reader_runs me y x
theorem jz94 (me:Y13→Y9→Option (Y3×Y11)) (y:Y9) (N:Nat) (x:Y13):riseR (Ez94 me) Tz94 6 N Tryz.f77 (Pz94 me) x y=nref09_reader_runs me y x:=by kernel_rfl
theorem lz94 (me:Y13→Y9→Option (Y3×Y11)) (y:Y9) (N:Nat) (x:Y13):riseR (Ez94 me) Tz94 6 N Tryz.f77 (Pz94 me) x y=mref09_reader_runs me y N x:=(jz94 me y N x).trans rfl
def rref09_reader_runs:Nat→Y13→Y9→Option (Y3×Y11)
 | 0,_,_=>none
 | k+1,x,y=>mref09_reader_runs (rref09_reader_runs k) y big x
def cref09_reader_runs (x:Y13) (y:Y9):Option (Y3×Y11):=rref09_reader_runs big x y
@[reducible] def Cz94:RecC:=Pz94 cref09_reader_runs
theorem Rz94:∀ k,RecOk Tryz.prog 77 (Pz94 (rref09_reader_runs k))
 | 0=>rec_none Tryz.func77 rfl (by decide)
 | k+1=>by
  have ih:=Rz94 k
  exact rec_of (E:=Ez94 (rref09_reader_runs k)) ⟨tabOk,(fsCons2 Lz93 fsNil2),fun _ _ _=>rfl,mixed,inlNil,rcsCons ih rcsNil,owsNil⟩ Tryz.func77 rfl (by decide) (by kernel_rfl) (by kernel_rfl) (by kernel_rfl) (fun x y r h=>⟨Tz94,6,big,(lz94 (rref09_reader_runs k) y big x).trans h⟩)
theorem Lz94:RecOk Tryz.prog 77 Cz94:=Rz94 big
@[reducible] def Pz95 (me:Y10→Y9→Option Y21):RecC:=⟨[.fix (.loc 0 [])],[.var Z7 (.hole Z7)],0,[Z0],me⟩
noncomputable def Ez95 (me:Y10→Y9→Option Y21):Env2:={ tab:=tab,fs:=[(76,Gz90)],inl:=[],rcs:=[(39,Cz77),(41,Cz80),(73,Cz81),(75,Cz85),(77,Cz94),(42,Pz95 me)],ag:=[11] }
noncomputable def ez95_0 (v:Y24):St:={ s:=[(0,(.loc 0 [])),(2,(.loc 1 [])),(3,(.loc 6 [])),(4,(.val ⟨Z3,v.1⟩)),(5,(.val ⟨Z3,v.2.1⟩))],l:=[(0,.var Z7 (.val ⟨Z7,v.2.2.1⟩)),(1,.var Z0 (.pair (.val ⟨.str,v.2.2.2.1⟩) (.pair (.val ⟨Z3,v.2.2.2.2.1⟩) (.pair (.val ⟨Z3,v.2.2.2.2.2.1⟩) (.pair (.row 2) (.pair (.row 3) (.pair (.row 4) (.pair (.row 5) (.val ⟨.unit,v.2.2.2.2.2.2.1⟩))))))))),(2,.row Z8 v.2.2.2.2.2.2.2.1),(3,.row Z5 v.2.2.2.2.2.2.2.2.1),(4,.row Z6 v.2.2.2.2.2.2.2.2.2.1),(5,.row Z6 v.2.2.2.2.2.2.2.2.2.2.1),(6,.var Z0 (.pair (.val ⟨.str,v.2.2.2.2.2.2.2.2.2.2.2.1⟩) (.pair (.val ⟨Z3,v.2.2.2.2.2.2.2.2.2.2.2.2.1⟩) (.pair (.val ⟨Z3,v.2.2.2.2.2.2.2.2.2.2.2.2.2.1⟩) (.pair (.val ⟨(.slice Z8),v.2.2.2.2.2.2.2.2.2.2.2.2.2.2.1⟩) (.pair (.row 7) (.pair (.row 8) (.pair (.row 9) .unit)))))))),(7,.row Z5 v.2.2.2.2.2.2.2.2.2.2.2.2.2.2.2.1),(8,.row Z6 v.2.2.2.2.2.2.2.2.2.2.2.2.2.2.2.2.1),(9,.row Z6 v.2.2.2.2.2.2.2.2.2.2.2.2.2.2.2.2.2)],k:=[(0,[(0,(.loc 0 []))])],b:=4096 }
def href09_reader_function_0 (me:Y10→Y9→Option Y21) (y:Y9) (self0:Y24→Option Y21) (v:Y24):Option Y21:=
 (bif (decide (v.2.1 < v.1)) then (bif (!v.2.2.1.2.1) then ((cref06_Decode v.2.2.1.1).bind fun x6=>(bif (x6.2.2 != (0:Int)) then (let x7:Y3:=(v.2.2.1.1,(true,v.2.2.1.2.2));(let x8:Int:=(IntKind.i64.wrap (v.2.1+(1:Int)));(self0 (v.1,x8,x7,v.2.2.2.1,v.2.2.2.2.1,v.2.2.2.2.2.1,v.2.2.2.2.2.2.1,v.2.2.2.2.2.2.2.1,v.2.2.2.2.2.2.2.2.1,v.2.2.2.2.2.2.2.2.2.1,v.2.2.2.2.2.2.2.2.2.2.1,v.2.2.2.2.2.2.2.2.2.2.2.1,v.2.2.2.2.2.2.2.2.2.2.2.2.1,v.2.2.2.2.2.2.2.2.2.2.2.2.2.1,v.2.2.2.2.2.2.2.2.2.2.2.2.2.2.1,v.2.2.2.2.2.2.2.2.2.2.2.2.2.2.2.1,v.2.2.2.2.2.2.2.2.2.2.2.2.2.2.2.2.1,v.2.2.2.2.2.2.2.2.2.2.2.2.2.2.2.2.2)))) else (let x9:Y17:=([x6.2.1]:Y17);(bif (Nat.ble 1 4&&Nat.ble (List.length v.2.2.2.2.2.2.2.2.2.2.2.2.2.2.2.1+List.length x9) lim) then (let x10:Y17:=(List.append v.2.2.2.2.2.2.2.2.2.2.2.2.2.2.2.1 x9);(let x11:Int:=(IntKind.i64.wrap (v.2.1+(1:Int)));(self0 (v.1,x11,(x6.1,v.2.2.1.2),v.2.2.2.1,v.2.2.2.2.1,v.2.2.2.2.2.1,v.2.2.2.2.2.2.1,v.2.2.2.2.2.2.2.1,v.2.2.2.2.2.2.2.2.1,v.2.2.2.2.2.2.2.2.2.1,v.2.2.2.2.2.2.2.2.2.2.1,v.2.2.2.2.2.2.2.2.2.2.2.1,v.2.2.2.2.2.2.2.2.2.2.2.2.1,v.2.2.2.2.2.2.2.2.2.2.2.2.2.1,v.2.2.2.2.2.2.2.2.2.2.2.2.2.2.1,x10,v.2.2.2.2.2.2.2.2.2.2.2.2.2.2.2.2.1,v.2.2.2.2.2.2.2.2.2.2.2.2.2.2.2.2.2)))) else none)))) else ((cref09_reader_runs ((),((List.length v.2.2.2.2.2.2.2.2.2.2.2.2.2.2.2.1:Int),())) (v.2.2.1,())).bind fun x12=>((cref09_reader_runs ((),((List.length v.2.2.2.2.2.2.2.2.2.2.2.2.2.2.2.1:Int),())) (x12.1,())).bind fun x13=>(some (x13.1,(v.2.2.2.2.2.2.2.2.2.2.2.1,(v.2.2.2.2.2.2.2.2.2.2.2.2.1,(v.2.2.2.2.2.2.2.2.2.2.2.2.2.1,(v.2.2.2.2.2.2.2.2.2.2.2.2.2.2.1,(v.2.2.2.2.2.2.2.2.2.2.2.2.2.2.2.1,(x12.2,(x13.2,())))))))))))) else ((cref09_reader_runs ((),((List.length v.2.2.2.2.2.2.2.2.2.2.2.2.2.2.2.1:Int),())) (v.2.2.1,())).bind fun x14=>((cref09_reader_runs ((),((List.length v.2.2.2.2.2.2.2.2.2.2.2.2.2.2.2.1:Int),())) (x14.1,())).bind fun x15=>(some (x15.1,(v.2.2.2.2.2.2.2.2.2.2.2.1,(v.2.2.2.2.2.2.2.2.2.2.2.2.1,(v.2.2.2.2.2.2.2.2.2.2.2.2.2.1,(v.2.2.2.2.2.2.2.2.2.2.2.2.2.2.1,(v.2.2.2.2.2.2.2.2.2.2.2.2.2.2.2.1,(x14.2,(x15.2,()))))))))))))
def gref09_reader_function_0 (me:Y10→Y9→Option Y21) (y:Y9) (N:Nat) (self0:Y24→Option Y21) (v:Y24):Option Y21:=href09_reader_function_0 me y self0 v
theorem kz95_0 (me:Y10→Y9→Option Y21) (y:Y9) (N:Nat) (s0:St→Option Y21) (v):(flocR (Ez95 me) Tz95 6 N Tryz.f42 (Pz95 me) y [] 0 nowhereR) s0 (ez95_0 v)=href09_reader_function_0 me y (fun v=>s0 (ez95_0 v)) v:=by kernel_rfl
theorem bz95_0 (me:Y10→Y9→Option Y21) (y:Y9) (N:Nat) (s0:St→Option Y21) (v):(flocR (Ez95 me) Tz95 6 N Tryz.f42 (Pz95 me) y [] 0 nowhereR) s0 (ez95_0 v)=gref09_reader_function_0 me y N (fun v=>s0 (ez95_0 v)) v:=kz95_0 me y N s0 v
def nref09_reader_function (me:Y10→Y9→Option Y21) (y:Y9) (loop0:Y24→Option Y21) (x:Y10):Option Y21:=
 ((cref09_reader_said ((),((100:Int),())) (y.1,())).bind fun x1=>((cref09_reader_number ((),((100:Int),())) (x1.1,())).bind fun x2=>((cref09_reader_signed ((),()) (x2.1,())).bind fun x3=>((cref09_reader_fields ((),()) (x3.1,())).bind fun x4=>((cref09_reader_number ((),((1000:Int),())) (x4.1,())).bind fun x5=>(loop0 (x5.2,(0:Int),x5.1,([]:List Int),(0:Int),(0:Int),(),([]:List Y1),([]:List Y8),([]:List Y5),([]:List Y5),x1.2,x2.2,x3.2,x4.2,([]:List Y8),([]:List Y5),([]:List Y5))))))))
def mref09_reader_function (me:Y10→Y9→Option Y21) (y:Y9) (N:Nat) (x:Y10):Option Y21:=nref09_reader_function me y (iterV (gref09_reader_function_0 me y N) N) x
theorem jz95 (me:Y10→Y9→Option Y21) (y:Y9) (N:Nat) (x:Y10):riseR (Ez95 me) Tz95 6 N Tryz.f42 (Pz95 me) x y=nref09_reader_function me y (fun v=>iterR (flocR (Ez95 me) Tz95 6 N Tryz.f42 (Pz95 me) y [] 0 nowhereR) N (ez95_0 v)) x:=by kernel_rfl
theorem lz95 (me:Y10→Y9→Option Y21) (y:Y9) (N:Nat) (x:Y10):riseR (Ez95 me) Tz95 6 N Tryz.f42 (Pz95 me) x y=mref09_reader_function me y N x:=(jz95 me y N x).trans (by rw [funext (iterR_eq ez95_0 (bz95_0 me y N) N)];rfl)
def rref09_reader_function:Nat→Y10→Y9→Option Y21
 | 0,_,_=>none
 | k+1,x,y=>mref09_reader_function (rref09_reader_function k) y big x
def cref09_reader_function (x:Y10) (y:Y9):Option Y21:=rref09_reader_function big x y
@[reducible] def Cz95:RecC:=Pz95 cref09_reader_function
theorem Rz95:∀ k,RecOk Tryz.prog 42 (Pz95 (rref09_reader_function k))
 | 0=>rec_none Tryz.func42 rfl (by decide)
 | k+1=>by
  have ih:=Rz95 k
  exact rec_of (E:=Ez95 (rref09_reader_function k)) ⟨tabOk,(fsCons2 Lz90 fsNil2),fun _ _ _=>rfl,mixed,inlNil,rcsCons Lz77 (rcsCons Lz80 (rcsCons Lz81 (rcsCons Lz85 (rcsCons Lz94 (rcsCons ih rcsNil))))),owsNil⟩ Tryz.func42 rfl (by decide) (by kernel_rfl) (by kernel_rfl) (by kernel_rfl) (fun x y r h=>⟨Tz95,6,big,(lz95 (rref09_reader_function k) y big x).trans h⟩)
theorem Lz95:RecOk Tryz.prog 42 Cz95:=Rz95 big
noncomputable def Ez118:Env2:={ tab:=tab,fs:=[(35,Gz117),(38,Gz109)],inl:=[],rcs:=[(39,Cz77),(40,Cz82),(41,Cz80),(42,Cz95)] }
noncomputable def ez118_2 (v:Y28):St:={ s:=[(0,(.val ⟨Z9,v.1⟩)),(2,(.loc 0 [])),(4,(.loc 4 [])),(5,(.loc 5 [])),(6,(.val ⟨Z3,v.2.1⟩)),(9,(.val ⟨Z3,v.2.2.1⟩))],l:=[(0,.var Z4 (.pair (.row 1) (.pair (.row 2) (.pair (.row 3) (.val ⟨.unit,v.2.2.2.1⟩))))),(1,.row Z1 v.2.2.2.2.1),(2,.row .str v.2.2.2.2.2.1),(3,.row Z0 v.2.2.2.2.2.2.1),(4,.var Z7 (.val ⟨Z7,v.2.2.2.2.2.2.2.1⟩)),(5,.var Z4 (.pair (.row 6) (.pair (.row 7) (.pair (.row 8) (.val ⟨.unit,v.2.2.2.2.2.2.2.2.1⟩))))),(6,.row Z1 v.2.2.2.2.2.2.2.2.2.1),(7,.row .str v.2.2.2.2.2.2.2.2.2.2.1),(8,.row Z0 v.2.2.2.2.2.2.2.2.2.2.2)],k:=[],b:=4096 }
noncomputable def ez118_1 (v:Y28):St:={ s:=[(0,(.val ⟨Z9,v.1⟩)),(2,(.loc 0 [])),(4,(.loc 4 [])),(5,(.loc 5 [])),(6,(.val ⟨Z3,v.2.1⟩)),(8,(.val ⟨Z3,v.2.2.1⟩))],l:=[(0,.var Z4 (.pair (.row 1) (.pair (.row 2) (.pair (.row 3) (.val ⟨.unit,v.2.2.2.1⟩))))),(1,.row Z1 v.2.2.2.2.1),(2,.row .str v.2.2.2.2.2.1),(3,.row Z0 v.2.2.2.2.2.2.1),(4,.var Z7 (.val ⟨Z7,v.2.2.2.2.2.2.2.1⟩)),(5,.var Z4 (.pair (.row 6) (.pair (.row 7) (.pair (.row 8) (.val ⟨.unit,v.2.2.2.2.2.2.2.2.1⟩))))),(6,.row Z1 v.2.2.2.2.2.2.2.2.2.1),(7,.row .str v.2.2.2.2.2.2.2.2.2.2.1),(8,.row Z0 v.2.2.2.2.2.2.2.2.2.2.2)],k:=[],b:=4096 }
noncomputable def ez118_0 (v:Y28):St:={ s:=[(0,(.val ⟨Z9,v.1⟩)),(2,(.loc 0 [])),(4,(.loc 4 [])),(5,(.loc 5 [])),(6,(.val ⟨Z3,v.2.1⟩)),(7,(.val ⟨Z3,v.2.2.1⟩))],l:=[(0,.var Z4 (.pair (.row 1) (.pair (.row 2) (.pair (.row 3) (.val ⟨.unit,v.2.2.2.1⟩))))),(1,.row Z1 v.2.2.2.2.1),(2,.row .str v.2.2.2.2.2.1),(3,.row Z0 v.2.2.2.2.2.2.1),(4,.var Z7 (.val ⟨Z7,v.2.2.2.2.2.2.2.1⟩)),(5,.var Z4 (.pair (.row 6) (.pair (.row 7) (.pair (.row 8) (.val ⟨.unit,v.2.2.2.2.2.2.2.2.1⟩))))),(6,.row Z1 v.2.2.2.2.2.2.2.2.2.1),(7,.row .str v.2.2.2.2.2.2.2.2.2.2.1),(8,.row Z0 v.2.2.2.2.2.2.2.2.2.2.2)],k:=[],b:=4096 }
def href09_Decode_2 (self0:Y28→Option Y18) (self1:Y28→Option Y18) (self2:Y28→Option Y18) (v:Y28):Option Y18:=
 (bif (decide (v.2.2.1 < v.2.1)) then (bif (!v.2.2.2.2.2.2.2.1.2.1) then ((cref09_reader_function ((),()) (v.2.2.2.2.2.2.2.1,())).bind fun x14=>(let x15:Y14:=([x14.2]:Y14);(bif (Nat.ble 1 7&&Nat.ble (List.length v.2.2.2.2.2.2.2.2.2.2.2+List.length x15) lim) then (let x16:Y14:=(List.append v.2.2.2.2.2.2.2.2.2.2.2 x15);(let x17:Int:=(IntKind.i64.wrap (v.2.2.1+(1:Int)));(self2 (v.1,v.2.1,x17,v.2.2.2.1,v.2.2.2.2.1,v.2.2.2.2.2.1,v.2.2.2.2.2.2.1,x14.1,v.2.2.2.2.2.2.2.2.1,v.2.2.2.2.2.2.2.2.2.1,v.2.2.2.2.2.2.2.2.2.2.1,x16)))) else none))) else (bif v.2.2.2.2.2.2.2.1.2.1 then (let x18:Y4:=(([]:Y2),(([]:Y15),(([]:Y14),())));(some (x18,(12:Int)))) else (bif (v.2.2.2.2.2.2.2.1.1.2.1 != (List.length v.1:Int)) then (let x19:Y4:=(([]:Y2),(([]:Y15),(([]:Y14),())));(some (x19,(12:Int)))) else ((cref09_Fine (v.2.2.2.2.2.2.2.2.2.1,(v.2.2.2.2.2.2.2.2.2.2.1,(v.2.2.2.2.2.2.2.2.2.2.2,v.2.2.2.2.2.2.2.2.1)))).bind fun x20=>(bif (!x20) then (let x21:Y4:=(([]:Y2),(([]:Y15),(([]:Y14),())));(some (x21,(12:Int)))) else ((cref09_Coded (v.2.2.2.2.2.2.2.2.2.1,(v.2.2.2.2.2.2.2.2.2.2.1,(v.2.2.2.2.2.2.2.2.2.2.2,v.2.2.2.2.2.2.2.2.1)))).bind fun x22=>(bif (!(eqD .str x22 v.1)) then (let x23:Y4:=(([]:Y2),(([]:Y15),(([]:Y14),())));(some (x23,(12:Int)))) else (some ((v.2.2.2.2.2.2.2.2.2.1,(v.2.2.2.2.2.2.2.2.2.2.1,(v.2.2.2.2.2.2.2.2.2.2.2,v.2.2.2.2.2.2.2.2.1))),(0:Int)))))))))) else (bif v.2.2.2.2.2.2.2.1.2.1 then (let x24:Y4:=(([]:Y2),(([]:Y15),(([]:Y14),())));(some (x24,(12:Int)))) else (bif (v.2.2.2.2.2.2.2.1.1.2.1 != (List.length v.1:Int)) then (let x25:Y4:=(([]:Y2),(([]:Y15),(([]:Y14),())));(some (x25,(12:Int)))) else ((cref09_Fine (v.2.2.2.2.2.2.2.2.2.1,(v.2.2.2.2.2.2.2.2.2.2.1,(v.2.2.2.2.2.2.2.2.2.2.2,v.2.2.2.2.2.2.2.2.1)))).bind fun x26=>(bif (!x26) then (let x27:Y4:=(([]:Y2),(([]:Y15),(([]:Y14),())));(some (x27,(12:Int)))) else ((cref09_Coded (v.2.2.2.2.2.2.2.2.2.1,(v.2.2.2.2.2.2.2.2.2.2.1,(v.2.2.2.2.2.2.2.2.2.2.2,v.2.2.2.2.2.2.2.2.1)))).bind fun x28=>(bif (!(eqD .str x28 v.1)) then (let x29:Y4:=(([]:Y2),(([]:Y15),(([]:Y14),())));(some (x29,(12:Int)))) else (some ((v.2.2.2.2.2.2.2.2.2.1,(v.2.2.2.2.2.2.2.2.2.2.1,(v.2.2.2.2.2.2.2.2.2.2.2,v.2.2.2.2.2.2.2.2.1))),(0:Int))))))))))
def gref09_Decode_2 (N:Nat) (self0:Y28→Option Y18) (self1:Y28→Option Y18) (self2:Y28→Option Y18) (v:Y28):Option Y18:=href09_Decode_2 self0 self1 self2 v
theorem kz118_2 (N:Nat) (s0:St→Option Y18) (s1:St→Option Y18) (s2:St→Option Y18) (v):(floc (Ez118) Tz118 6 N Tryz.f25 [Z4,Z3] [false,false] [] 2 nowhereR) s2 (ez118_2 v)=href09_Decode_2 (fun v=>s0 (ez118_0 v)) (fun v=>s1 (ez118_1 v)) (fun v=>s2 (ez118_2 v)) v:=by kernel_rfl
theorem bz118_2 (N:Nat) (s0:St→Option Y18) (s1:St→Option Y18) (s2:St→Option Y18) (v):(floc (Ez118) Tz118 6 N Tryz.f25 [Z4,Z3] [false,false] [] 2 nowhereR) s2 (ez118_2 v)=gref09_Decode_2 N (fun v=>s0 (ez118_0 v)) (fun v=>s1 (ez118_1 v)) (fun v=>s2 (ez118_2 v)) v:=kz118_2 N s0 s1 s2 v
def href09_Decode_1 (loop2:Y28→Option Y18) (self0:Y28→Option Y18) (self1:Y28→Option Y18) (v:Y28):Option Y18:=
 (bif (decide (v.2.2.1 < v.2.1)) then (bif (!v.2.2.2.2.2.2.2.1.2.1) then ((cref09_reader_said ((),((1000:Int),())) (v.2.2.2.2.2.2.2.1,())).bind fun x9=>(let x10:Y15:=([x9.2]:Y15);(bif (Nat.ble 1 1&&Nat.ble (List.length v.2.2.2.2.2.2.2.2.2.2.1+List.length x10) lim) then (let x11:Y15:=(List.append v.2.2.2.2.2.2.2.2.2.2.1 x10);(let x12:Int:=(IntKind.i64.wrap (v.2.2.1+(1:Int)));(self1 (v.1,v.2.1,x12,v.2.2.2.1,v.2.2.2.2.1,v.2.2.2.2.2.1,v.2.2.2.2.2.2.1,x9.1,v.2.2.2.2.2.2.2.2.1,v.2.2.2.2.2.2.2.2.2.1,x11,v.2.2.2.2.2.2.2.2.2.2.2)))) else none))) else ((cref09_reader_number ((),((1000:Int),())) (v.2.2.2.2.2.2.2.1,())).bind fun x13=>(loop2 (v.1,x13.2,(0:Int),v.2.2.2.1,v.2.2.2.2.1,v.2.2.2.2.2.1,v.2.2.2.2.2.2.1,x13.1,v.2.2.2.2.2.2.2.2.1,v.2.2.2.2.2.2.2.2.2.1,v.2.2.2.2.2.2.2.2.2.2.1,v.2.2.2.2.2.2.2.2.2.2.2)))) else ((cref09_reader_number ((),((1000:Int),())) (v.2.2.2.2.2.2.2.1,())).bind fun x30=>(loop2 (v.1,x30.2,(0:Int),v.2.2.2.1,v.2.2.2.2.1,v.2.2.2.2.2.1,v.2.2.2.2.2.2.1,x30.1,v.2.2.2.2.2.2.2.2.1,v.2.2.2.2.2.2.2.2.2.1,v.2.2.2.2.2.2.2.2.2.2.1,v.2.2.2.2.2.2.2.2.2.2.2))))
def gref09_Decode_1 (N:Nat) (self0:Y28→Option Y18) (self1:Y28→Option Y18) (v:Y28):Option Y18:=href09_Decode_1 (iterV (gref09_Decode_2 N self0 self1) N) self0 self1 v
theorem kz118_1 (N:Nat) (s0:St→Option Y18) (s1:St→Option Y18) (v):(floc (Ez118) Tz118 6 N Tryz.f25 [Z4,Z3] [false,false] [] 1 nowhereR) s1 (ez118_1 v)=href09_Decode_1 (fun v=>iterR (floc (Ez118) Tz118 6 N Tryz.f25 [Z4,Z3] [false,false] [] 2 nowhereR) N (ez118_2 v)) (fun v=>s0 (ez118_0 v)) (fun v=>s1 (ez118_1 v)) v:=by kernel_rfl
theorem bz118_1 (N:Nat) (s0:St→Option Y18) (s1:St→Option Y18) (v):(floc (Ez118) Tz118 6 N Tryz.f25 [Z4,Z3] [false,false] [] 1 nowhereR) s1 (ez118_1 v)=gref09_Decode_1 N (fun v=>s0 (ez118_0 v)) (fun v=>s1 (ez118_1 v)) v:=(kz118_1 N s0 s1 v).trans (by rw [funext (iterR_eq ez118_2 (bz118_2 N s0 s1) N)];rfl)
def href09_Decode_0 (loop1:Y28→Option Y18) (self0:Y28→Option Y18) (v:Y28):Option Y18:=
 (bif (decide (v.2.2.1 < v.2.1)) then (bif (!v.2.2.2.2.2.2.2.1.2.1) then ((cref09_reader_kind ((),()) (v.2.2.2.2.2.2.2.1,())).bind fun x4=>(let x5:Y2:=([x4.2]:Y2);(bif (Nat.ble 1 4&&Nat.ble (List.length v.2.2.2.2.2.2.2.2.2.1+List.length x5) lim) then (let x6:Y2:=(List.append v.2.2.2.2.2.2.2.2.2.1 x5);(let x7:Int:=(IntKind.i64.wrap (v.2.2.1+(1:Int)));(self0 (v.1,v.2.1,x7,v.2.2.2.1,v.2.2.2.2.1,v.2.2.2.2.2.1,v.2.2.2.2.2.2.1,x4.1,v.2.2.2.2.2.2.2.2.1,x6,v.2.2.2.2.2.2.2.2.2.2.1,v.2.2.2.2.2.2.2.2.2.2.2)))) else none))) else ((cref09_reader_number ((),((1000:Int),())) (v.2.2.2.2.2.2.2.1,())).bind fun x8=>(loop1 (v.1,x8.2,(0:Int),v.2.2.2.1,v.2.2.2.2.1,v.2.2.2.2.2.1,v.2.2.2.2.2.2.1,x8.1,v.2.2.2.2.2.2.2.2.1,v.2.2.2.2.2.2.2.2.2.1,v.2.2.2.2.2.2.2.2.2.2.1,v.2.2.2.2.2.2.2.2.2.2.2)))) else ((cref09_reader_number ((),((1000:Int),())) (v.2.2.2.2.2.2.2.1,())).bind fun x31=>(loop1 (v.1,x31.2,(0:Int),v.2.2.2.1,v.2.2.2.2.1,v.2.2.2.2.2.1,v.2.2.2.2.2.2.1,x31.1,v.2.2.2.2.2.2.2.2.1,v.2.2.2.2.2.2.2.2.2.1,v.2.2.2.2.2.2.2.2.2.2.1,v.2.2.2.2.2.2.2.2.2.2.2))))
def gref09_Decode_0 (N:Nat) (self0:Y28→Option Y18) (v:Y28):Option Y18:=href09_Decode_0 (iterV (gref09_Decode_1 N self0) N) self0 v
theorem kz118_0 (N:Nat) (s0:St→Option Y18) (v):(floc (Ez118) Tz118 6 N Tryz.f25 [Z4,Z3] [false,false] [] 0 nowhereR) s0 (ez118_0 v)=href09_Decode_0 (fun v=>iterR (floc (Ez118) Tz118 6 N Tryz.f25 [Z4,Z3] [false,false] [] 1 nowhereR) N (ez118_1 v)) (fun v=>s0 (ez118_0 v)) v:=by kernel_rfl
theorem bz118_0 (N:Nat) (s0:St→Option Y18) (v):(floc (Ez118) Tz118 6 N Tryz.f25 [Z4,Z3] [false,false] [] 0 nowhereR) s0 (ez118_0 v)=gref09_Decode_0 N (fun v=>s0 (ez118_0 v)) v:=(kz118_0 N s0 v).trans (by rw [funext (iterR_eq ez118_1 (bz118_1 N s0) N)];rfl)
def nref09_Decode (loop0:Y28→Option Y18) (x:Y6):Option Y18:=
 (bif (decide ((List.length x:Int) > (20000:Int))) then (let x1:Y4:=(([]:Y2),(([]:Y15),(([]:Y14),())));(some (x1,(4:Int)))) else (let x2:Y3:=((x,((0:Int),())),(false,()));((cref09_reader_number ((),((1000:Int),())) (x2,())).bind fun x3=>(loop0 (x,x3.2,(0:Int),(),([]:List Y7),([]:List Y6),([]:List Y0),x3.1,(),([]:List Y7),([]:List Y6),([]:List Y0))))))
def mref09_Decode (N:Nat) (x:Y6):Option Y18:=nref09_Decode (iterV (gref09_Decode_0 N) N) x
theorem jz118 (N:Nat) (x:Y6):rise (Ez118) Tz118 6 N Tryz.f25 [Z9] [Z4,Z3] [false,false] x=nref09_Decode (fun v=>iterR (floc (Ez118) Tz118 6 N Tryz.f25 [Z4,Z3] [false,false] [] 0 nowhereR) N (ez118_0 v)) x:=by kernel_rfl
theorem lz118 (N:Nat) (x:Y6):rise (Ez118) Tz118 6 N Tryz.f25 [Z9] [Z4,Z3] [false,false] x=mref09_Decode N x:=(jz118 N x).trans (by rw [funext (iterR_eq ez118_0 (bz118_0 N) N)];rfl)
def cref09_Decode (x:Y6):Option Y18:=mref09_Decode big x
def Gz118:Fn2:=⟨[Z9],[Z4,Z3],[false,false],fun x=>cref09_Decode x⟩
theorem Lz118:Rises Tryz.prog 25 Gz118:=rises_of (E:=Ez118) ⟨tabOk,(fsCons2 Lz117 (fsCons2 Lz109 fsNil2)),fun _ _ _=>rfl,mixed,inlNil,(rcsCons Lz77 (rcsCons Lz82 (rcsCons Lz80 (rcsCons Lz95 rcsNil)))),owsNil⟩ Tryz.func25 rfl (by decide) (by kernel_rfl) (by kernel_rfl) (by kernel_rfl) (by kernel_rfl) (fun x r _ h=>⟨Tz118,6,big,(lz118 big x).trans h⟩)
def Tz119:LT:={ live:=[(4,[0,1,5])],keep:=[] }
noncomputable def Ez119:Env2:={ tab:=tab,fs:=[],inl:=[] }
noncomputable def ez119_0 (v:Y12×Y12×Int):St:={ s:=[(0,(.val ⟨(.slice Z8),v.1⟩)),(1,(.val ⟨(.slice Z8),v.2.1⟩)),(5,(.val ⟨Z3,v.2.2⟩))],l:=[],k:=[],b:=4096 }
def href04_SameFields_0 (self0:Y12×Y12×Int→Option (Bool)) (v:Y12×Y12×Int):Option (Bool):=
 (bif (decide (v.2.2 < (List.length v.1:Int))) then ((getI v.1 v.2.2).bind fun x1=>((getI v.2.1 v.2.2).bind fun x2=>(bif (!(eqD Z8 x1 x2)) then (some false) else (let x3:Int:=(IntKind.i64.wrap (v.2.2+(1:Int)));(self0 (v.1,v.2.1,x3)))))) else (some true))
def gref04_SameFields_0 (N:Nat) (self0:Y12×Y12×Int→Option (Bool)) (v:Y12×Y12×Int):Option (Bool):=href04_SameFields_0 self0 v
theorem kz119_0 (N:Nat) (s0:St→Option (Bool)) (v):(floc (Ez119) Tz119 6 N Tryz.f52 [.bool] [false] [] 0 nowhereR) s0 (ez119_0 v)=href04_SameFields_0 (fun v=>s0 (ez119_0 v)) v:=by kernel_rfl
theorem bz119_0 (N:Nat) (s0:St→Option (Bool)) (v):(floc (Ez119) Tz119 6 N Tryz.f52 [.bool] [false] [] 0 nowhereR) s0 (ez119_0 v)=gref04_SameFields_0 N (fun v=>s0 (ez119_0 v)) v:=kz119_0 N s0 v
def nref04_SameFields (loop0:Y12×Y12×Int→Option (Bool)) (x:Y12×Y12):Option (Bool):=
 (bif ((List.length x.1:Int) != (List.length x.2:Int)) then (some false) else (loop0 (x.1,x.2,(0:Int))))
def mref04_SameFields (N:Nat) (x:Y12×Y12):Option (Bool):=nref04_SameFields (iterV (gref04_SameFields_0 N) N) x
theorem jz119 (N:Nat) (x:Y12×Y12):rise (Ez119) Tz119 6 N Tryz.f52 [(.slice Z8),(.slice Z8)] [.bool] [false] x=nref04_SameFields (fun v=>iterR (floc (Ez119) Tz119 6 N Tryz.f52 [.bool] [false] [] 0 nowhereR) N (ez119_0 v)) x:=by kernel_rfl
theorem lz119 (N:Nat) (x:Y12×Y12):rise (Ez119) Tz119 6 N Tryz.f52 [(.slice Z8),(.slice Z8)] [.bool] [false] x=mref04_SameFields N x:=(jz119 N x).trans (by rw [funext (iterR_eq ez119_0 (bz119_0 N) N)];rfl)
def cref04_SameFields (x:Y12×Y12):Option (Bool):=mref04_SameFields big x
def Gz119:Fn2:=⟨[(.slice Z8),(.slice Z8)],[.bool],[false],fun x=>cref04_SameFields x⟩
theorem Lz119:Rises Tryz.prog 52 Gz119:=rises_of (E:=Ez119) ⟨tabOk,fsNil2,fun _ _ _=>rfl,mixed,inlNil,rcsNil,owsNil⟩ Tryz.func52 rfl (by decide) (by kernel_rfl) (by kernel_rfl) (by kernel_rfl) (by kernel_rfl) (fun x r _ h=>⟨Tz119,6,big,(lz119 big x).trans h⟩)
def Tz120:LT:={ live:=[(4,[0,1,5])],keep:=[] }
noncomputable def Ez120:Env2:={ tab:=tab,fs:=[(52,Gz119)],inl:=[] }
noncomputable def ez120_0 (v:Y2×Y2×Int):St:={ s:=[(0,(.val ⟨Z12,v.1⟩)),(1,(.val ⟨Z12,v.2.1⟩)),(5,(.val ⟨Z3,v.2.2⟩))],l:=[],k:=[],b:=4096 }
def href04_SameTable_0 (self0:Y2×Y2×Int→Option (Bool)) (v:Y2×Y2×Int):Option (Bool):=
 (bif (decide (v.2.2 < (List.length v.1:Int))) then ((getI v.1 v.2.2).bind fun x1=>((getI v.2.1 v.2.2).bind fun x2=>(bif (x1.1 != x2.1) then (some false) else ((getI v.1 v.2.2).bind fun x3=>((getI v.2.1 v.2.2).bind fun x4=>(bif (x3.2.1 != x4.2.1) then (some false) else ((getI v.1 v.2.2).bind fun x5=>((getI v.2.1 v.2.2).bind fun x6=>(bif (x5.2.2.1 != x6.2.2.1) then (some false) else ((getI v.1 v.2.2).bind fun x7=>((getI v.2.1 v.2.2).bind fun x8=>((cref04_SameFields (x7.2.2.2.1,x8.2.2.2.1)).bind fun x9=>(bif (!x9) then (some false) else (let x10:Int:=(IntKind.i64.wrap (v.2.2+(1:Int)));(self0 (v.1,v.2.1,x10)))))))))))))))) else (some true))
def gref04_SameTable_0 (N:Nat) (self0:Y2×Y2×Int→Option (Bool)) (v:Y2×Y2×Int):Option (Bool):=href04_SameTable_0 self0 v
theorem kz120_0 (N:Nat) (s0:St→Option (Bool)) (v):(floc (Ez120) Tz120 6 N Tryz.f30 [.bool] [false] [] 0 nowhereR) s0 (ez120_0 v)=href04_SameTable_0 (fun v=>s0 (ez120_0 v)) v:=by kernel_rfl
theorem bz120_0 (N:Nat) (s0:St→Option (Bool)) (v):(floc (Ez120) Tz120 6 N Tryz.f30 [.bool] [false] [] 0 nowhereR) s0 (ez120_0 v)=gref04_SameTable_0 N (fun v=>s0 (ez120_0 v)) v:=kz120_0 N s0 v
def nref04_SameTable (loop0:Y2×Y2×Int→Option (Bool)) (x:Y2×Y2):Option (Bool):=
 (bif ((List.length x.1:Int) != (List.length x.2:Int)) then (some false) else (loop0 (x.1,x.2,(0:Int))))
def mref04_SameTable (N:Nat) (x:Y2×Y2):Option (Bool):=nref04_SameTable (iterV (gref04_SameTable_0 N) N) x
theorem jz120 (N:Nat) (x:Y2×Y2):rise (Ez120) Tz120 6 N Tryz.f30 [Z12,Z12] [.bool] [false] x=nref04_SameTable (fun v=>iterR (floc (Ez120) Tz120 6 N Tryz.f30 [.bool] [false] [] 0 nowhereR) N (ez120_0 v)) x:=by kernel_rfl
theorem lz120 (N:Nat) (x:Y2×Y2):rise (Ez120) Tz120 6 N Tryz.f30 [Z12,Z12] [.bool] [false] x=mref04_SameTable N x:=(jz120 N x).trans (by rw [funext (iterR_eq ez120_0 (bz120_0 N) N)];rfl)
def cref04_SameTable (x:Y2×Y2):Option (Bool):=mref04_SameTable big x
def Gz120:Fn2:=⟨[Z12,Z12],[.bool],[false],fun x=>cref04_SameTable x⟩
theorem Lz120:Rises Tryz.prog 30 Gz120:=rises_of (E:=Ez120) ⟨tabOk,(fsCons2 Lz119 fsNil2),fun _ _ _=>rfl,mixed,inlNil,rcsNil,owsNil⟩ Tryz.func30 rfl (by decide) (by kernel_rfl) (by kernel_rfl) (by kernel_rfl) (by kernel_rfl) (fun x r _ h=>⟨Tz120,6,big,(lz120 big x).trans h⟩)
def Tz121:LT:={ live:=[(4,[0,1,5])],keep:=[] }
noncomputable def Ez121:Env2:={ tab:=tab,fs:=[],inl:=[] }
noncomputable def ez121_0 (v:Y17×Y17×Int):St:={ s:=[(0,(.val ⟨(.slice Z5),v.1⟩)),(1,(.val ⟨(.slice Z5),v.2.1⟩)),(5,(.val ⟨Z3,v.2.2⟩))],l:=[],k:=[],b:=4096 }
def href07_Same_0 (self0:Y17×Y17×Int→Option (Bool)) (v:Y17×Y17×Int):Option (Bool):=
 (bif (decide (v.2.2 < (List.length v.1:Int))) then ((getI v.1 v.2.2).bind fun x1=>((getI v.2.1 v.2.2).bind fun x2=>(bif (!(eqD Z5 x1 x2)) then (some false) else (let x3:Int:=(IntKind.i64.wrap (v.2.2+(1:Int)));(self0 (v.1,v.2.1,x3)))))) else (some true))
def gref07_Same_0 (N:Nat) (self0:Y17×Y17×Int→Option (Bool)) (v:Y17×Y17×Int):Option (Bool):=href07_Same_0 self0 v
theorem kz121_0 (N:Nat) (s0:St→Option (Bool)) (v):(floc (Ez121) Tz121 6 N Tryz.f53 [.bool] [false] [] 0 nowhereR) s0 (ez121_0 v)=href07_Same_0 (fun v=>s0 (ez121_0 v)) v:=by kernel_rfl
theorem bz121_0 (N:Nat) (s0:St→Option (Bool)) (v):(floc (Ez121) Tz121 6 N Tryz.f53 [.bool] [false] [] 0 nowhereR) s0 (ez121_0 v)=gref07_Same_0 N (fun v=>s0 (ez121_0 v)) v:=kz121_0 N s0 v
def nref07_Same (loop0:Y17×Y17×Int→Option (Bool)) (x:Y17×Y17):Option (Bool):=
 (bif ((List.length x.1:Int) != (List.length x.2:Int)) then (some false) else (loop0 (x.1,x.2,(0:Int))))
def mref07_Same (N:Nat) (x:Y17×Y17):Option (Bool):=nref07_Same (iterV (gref07_Same_0 N) N) x
theorem jz121 (N:Nat) (x:Y17×Y17):rise (Ez121) Tz121 6 N Tryz.f53 [(.slice Z5),(.slice Z5)] [.bool] [false] x=nref07_Same (fun v=>iterR (floc (Ez121) Tz121 6 N Tryz.f53 [.bool] [false] [] 0 nowhereR) N (ez121_0 v)) x:=by kernel_rfl
theorem lz121 (N:Nat) (x:Y17×Y17):rise (Ez121) Tz121 6 N Tryz.f53 [(.slice Z5),(.slice Z5)] [.bool] [false] x=mref07_Same N x:=(jz121 N x).trans (by rw [funext (iterR_eq ez121_0 (bz121_0 N) N)];rfl)
def cref07_Same (x:Y17×Y17):Option (Bool):=mref07_Same big x
def Gz121:Fn2:=⟨[(.slice Z5),(.slice Z5)],[.bool],[false],fun x=>cref07_Same x⟩
theorem Lz121:Rises Tryz.prog 53 Gz121:=rises_of (E:=Ez121) ⟨tabOk,fsNil2,fun _ _ _=>rfl,mixed,inlNil,rcsNil,owsNil⟩ Tryz.func53 rfl (by decide) (by kernel_rfl) (by kernel_rfl) (by kernel_rfl) (by kernel_rfl) (fun x r _ h=>⟨Tz121,6,big,(lz121 big x).trans h⟩)
def Tz122:LT:={ live:=[(4,[0,1,5])],keep:=[] }
noncomputable def Ez122:Env2:={ tab:=tab,fs:=[],inl:=[] }
noncomputable def ez122_0 (v:Y11×Y11×Int):St:={ s:=[(0,(.val ⟨(.slice Z6),v.1⟩)),(1,(.val ⟨(.slice Z6),v.2.1⟩)),(5,(.val ⟨Z3,v.2.2⟩))],l:=[],k:=[],b:=4096 }
def href08_Same_0 (self0:Y11×Y11×Int→Option (Bool)) (v:Y11×Y11×Int):Option (Bool):=
 (bif (decide (v.2.2 < (List.length v.1:Int))) then ((getI v.1 v.2.2).bind fun x1=>((getI v.2.1 v.2.2).bind fun x2=>(bif (!(eqD Z6 x1 x2)) then (some false) else (let x3:Int:=(IntKind.i64.wrap (v.2.2+(1:Int)));(self0 (v.1,v.2.1,x3)))))) else (some true))
def gref08_Same_0 (N:Nat) (self0:Y11×Y11×Int→Option (Bool)) (v:Y11×Y11×Int):Option (Bool):=href08_Same_0 self0 v
theorem kz122_0 (N:Nat) (s0:St→Option (Bool)) (v):(floc (Ez122) Tz122 6 N Tryz.f54 [.bool] [false] [] 0 nowhereR) s0 (ez122_0 v)=href08_Same_0 (fun v=>s0 (ez122_0 v)) v:=by kernel_rfl
theorem bz122_0 (N:Nat) (s0:St→Option (Bool)) (v):(floc (Ez122) Tz122 6 N Tryz.f54 [.bool] [false] [] 0 nowhereR) s0 (ez122_0 v)=gref08_Same_0 N (fun v=>s0 (ez122_0 v)) v:=kz122_0 N s0 v
def nref08_Same (loop0:Y11×Y11×Int→Option (Bool)) (x:Y11×Y11):Option (Bool):=
 (bif ((List.length x.1:Int) != (List.length x.2:Int)) then (some false) else (loop0 (x.1,x.2,(0:Int))))
def mref08_Same (N:Nat) (x:Y11×Y11):Option (Bool):=nref08_Same (iterV (gref08_Same_0 N) N) x
theorem jz122 (N:Nat) (x:Y11×Y11):rise (Ez122) Tz122 6 N Tryz.f54 [(.slice Z6),(.slice Z6)] [.bool] [false] x=nref08_Same (fun v=>iterR (floc (Ez122) Tz122 6 N Tryz.f54 [.bool] [false] [] 0 nowhereR) N (ez122_0 v)) x:=by kernel_rfl
theorem lz122 (N:Nat) (x:Y11×Y11):rise (Ez122) Tz122 6 N Tryz.f54 [(.slice Z6),(.slice Z6)] [.bool] [false] x=mref08_Same N x:=(jz122 N x).trans (by rw [funext (iterR_eq ez122_0 (bz122_0 N) N)];rfl)
def cref08_Same (x:Y11×Y11):Option (Bool):=mref08_Same big x
def Gz122:Fn2:=⟨[(.slice Z6),(.slice Z6)],[.bool],[false],fun x=>cref08_Same x⟩
theorem Lz122:Rises Tryz.prog 54 Gz122:=rises_of (E:=Ez122) ⟨tabOk,fsNil2,fun _ _ _=>rfl,mixed,inlNil,rcsNil,owsNil⟩ Tryz.func54 rfl (by decide) (by kernel_rfl) (by kernel_rfl) (by kernel_rfl) (by kernel_rfl) (fun x r _ h=>⟨Tz122,6,big,(lz122 big x).trans h⟩)
def Tz123:LT:={ live:=[],keep:=[] }
noncomputable def Ez123:Env2:={ tab:=tab,fs:=[(52,Gz119),(53,Gz121),(54,Gz122)],inl:=[] }
def nref09_SameFunc (x:Y0×Y0):Option (Bool):=
 (bif (eqD .str x.1.1 x.2.1) then (bif (x.1.2.1==x.2.2.1) then (bif (x.1.2.2.1==x.2.2.2.1) then ((cref04_SameFields (x.1.2.2.2.1,x.2.2.2.2.1)).bind fun x1=>(bif x1 then ((cref07_Same (x.1.2.2.2.2.1,x.2.2.2.2.2.1)).bind fun x2=>(bif x2 then ((cref08_Same (x.1.2.2.2.2.2.1,x.2.2.2.2.2.2.1)).bind fun x3=>(bif x3 then ((cref08_Same (x.1.2.2.2.2.2.2.1,x.2.2.2.2.2.2.2.1)).bind fun x4=>(some x4)) else (some false))) else (some false))) else (some false))) else (some false)) else (some false)) else (some false))
def mref09_SameFunc (N:Nat) (x:Y0×Y0):Option (Bool):=nref09_SameFunc x
theorem jz123 (N:Nat) (x:Y0×Y0):rise (Ez123) Tz123 6 N Tryz.f31 [Z0,Z0] [.bool] [false] x=nref09_SameFunc x:=by kernel_rfl
theorem lz123 (N:Nat) (x:Y0×Y0):rise (Ez123) Tz123 6 N Tryz.f31 [Z0,Z0] [.bool] [false] x=mref09_SameFunc N x:=(jz123 N x).trans rfl
def cref09_SameFunc (x:Y0×Y0):Option (Bool):=mref09_SameFunc big x
def Gz123:Fn2:=⟨[Z0,Z0],[.bool],[false],fun x=>cref09_SameFunc x⟩
theorem Lz123:Rises Tryz.prog 31 Gz123:=rises_of (E:=Ez123) ⟨tabOk,(fsCons2 Lz119 (fsCons2 Lz121 (fsCons2 Lz122 fsNil2))),fun _ _ _=>rfl,mixed,inlNil,rcsNil,owsNil⟩ Tryz.func31 rfl (by decide) (by kernel_rfl) (by kernel_rfl) (by kernel_rfl) (by kernel_rfl) (fun x r _ h=>⟨Tz123,6,big,(lz123 big x).trans h⟩)
def Tz124:LT:={ live:=[(4,[2,3,5]),(9,[2,3,6])],keep:=[] }
noncomputable def Ez124:Env2:={ tab:=tab,fs:=[(30,Gz120),(31,Gz123)],inl:=[] }
noncomputable def ez124_1 (v:Int×Y4×Y4):St:={ s:=[(2,(.loc 0 [])),(3,(.loc 1 [])),(6,(.val ⟨Z3,v.1⟩))],l:=[(0,.var Z4 (.val ⟨Z4,v.2.1⟩)),(1,.var Z4 (.val ⟨Z4,v.2.2⟩))],k:=[],b:=4096 }
noncomputable def ez124_0 (v:Int×Y4×Y4):St:={ s:=[(2,(.loc 0 [])),(3,(.loc 1 [])),(5,(.val ⟨Z3,v.1⟩))],l:=[(0,.var Z4 (.val ⟨Z4,v.2.1⟩)),(1,.var Z4 (.val ⟨Z4,v.2.2⟩))],k:=[],b:=4096 }
def href09_Same_1 (self0:Int×Y4×Y4→Option (Bool)) (self1:Int×Y4×Y4→Option (Bool)) (v:Int×Y4×Y4):Option (Bool):=
 (bif (decide (v.1 < (List.length v.2.1.2.2.1:Int))) then ((getI v.2.1.2.2.1 v.1).bind fun x5=>((getI v.2.2.2.2.1 v.1).bind fun x6=>((cref09_SameFunc (x5,x6)).bind fun x7=>(bif (!x7) then (some false) else (let x8:Int:=(IntKind.i64.wrap (v.1+(1:Int)));(self1 (x8,v.2.1,v.2.2))))))) else (some true))
def gref09_Same_1 (N:Nat) (self0:Int×Y4×Y4→Option (Bool)) (self1:Int×Y4×Y4→Option (Bool)) (v:Int×Y4×Y4):Option (Bool):=href09_Same_1 self0 self1 v
theorem kz124_1 (N:Nat) (s0:St→Option (Bool)) (s1:St→Option (Bool)) (v):(floc (Ez124) Tz124 6 N Tryz.f14 [.bool] [false] [] 1 nowhereR) s1 (ez124_1 v)=href09_Same_1 (fun v=>s0 (ez124_0 v)) (fun v=>s1 (ez124_1 v)) v:=by kernel_rfl
theorem bz124_1 (N:Nat) (s0:St→Option (Bool)) (s1:St→Option (Bool)) (v):(floc (Ez124) Tz124 6 N Tryz.f14 [.bool] [false] [] 1 nowhereR) s1 (ez124_1 v)=gref09_Same_1 N (fun v=>s0 (ez124_0 v)) (fun v=>s1 (ez124_1 v)) v:=kz124_1 N s0 s1 v
def href09_Same_0 (loop1:Int×Y4×Y4→Option (Bool)) (self0:Int×Y4×Y4→Option (Bool)) (v:Int×Y4×Y4):Option (Bool):=
 (bif (decide (v.1 < (List.length v.2.1.2.1:Int))) then ((getI v.2.1.2.1 v.1).bind fun x2=>((getI v.2.2.2.1 v.1).bind fun x3=>(bif (!(eqD .str x2 x3)) then (some false) else (let x4:Int:=(IntKind.i64.wrap (v.1+(1:Int)));(self0 (x4,v.2.1,v.2.2)))))) else (loop1 ((0:Int),v.2.1,v.2.2)))
def gref09_Same_0 (N:Nat) (self0:Int×Y4×Y4→Option (Bool)) (v:Int×Y4×Y4):Option (Bool):=href09_Same_0 (iterV (gref09_Same_1 N self0) N) self0 v
theorem kz124_0 (N:Nat) (s0:St→Option (Bool)) (v):(floc (Ez124) Tz124 6 N Tryz.f14 [.bool] [false] [] 0 nowhereR) s0 (ez124_0 v)=href09_Same_0 (fun v=>iterR (floc (Ez124) Tz124 6 N Tryz.f14 [.bool] [false] [] 1 nowhereR) N (ez124_1 v)) (fun v=>s0 (ez124_0 v)) v:=by kernel_rfl
theorem bz124_0 (N:Nat) (s0:St→Option (Bool)) (v):(floc (Ez124) Tz124 6 N Tryz.f14 [.bool] [false] [] 0 nowhereR) s0 (ez124_0 v)=gref09_Same_0 N (fun v=>s0 (ez124_0 v)) v:=(kz124_0 N s0 v).trans (by rw [funext (iterR_eq ez124_1 (bz124_1 N s0) N)];rfl)
def nref09_Same (loop0:Int×Y4×Y4→Option (Bool)) (x:Y4×Y4):Option (Bool):=
 ((cref04_SameTable (x.1.1,x.2.1)).bind fun x1=>(bif (!x1) then (some false) else (bif ((List.length x.1.2.1:Int) != (List.length x.2.2.1:Int)) then (some false) else (bif ((List.length x.1.2.2.1:Int) != (List.length x.2.2.2.1:Int)) then (some false) else (loop0 ((0:Int),x.1,x.2))))))
def mref09_Same (N:Nat) (x:Y4×Y4):Option (Bool):=nref09_Same (iterV (gref09_Same_0 N) N) x
theorem jz124 (N:Nat) (x:Y4×Y4):rise (Ez124) Tz124 6 N Tryz.f14 [Z4,Z4] [.bool] [false] x=nref09_Same (fun v=>iterR (floc (Ez124) Tz124 6 N Tryz.f14 [.bool] [false] [] 0 nowhereR) N (ez124_0 v)) x:=by kernel_rfl
theorem lz124 (N:Nat) (x:Y4×Y4):rise (Ez124) Tz124 6 N Tryz.f14 [Z4,Z4] [.bool] [false] x=mref09_Same N x:=(jz124 N x).trans (by rw [funext (iterR_eq ez124_0 (bz124_0 N) N)];rfl)
def cref09_Same (x:Y4×Y4):Option (Bool):=mref09_Same big x
def Gz124:Fn2:=⟨[Z4,Z4],[.bool],[false],fun x=>cref09_Same x⟩
theorem Lz124:Rises Tryz.prog 14 Gz124:=rises_of (E:=Ez124) ⟨tabOk,(fsCons2 Lz120 (fsCons2 Lz123 fsNil2)),fun _ _ _=>rfl,mixed,inlNil,rcsNil,owsNil⟩ Tryz.func14 rfl (by decide) (by kernel_rfl) (by kernel_rfl) (by kernel_rfl) (by kernel_rfl) (fun x r _ h=>⟨Tz124,6,big,(lz124 big x).trans h⟩)
def Tlaw09_ImageReads:LT:={ live:=[],keep:=[] }
noncomputable def Elaw09_ImageReads:Env2:={ tab:=tab,fs:=[(13,Gz72),(14,Gz124),(25,Gz118)],inl:=[] }
def nlaw09_ImageReads (x:Y6):Option (Bool):=
 (bif (decide ((List.length x:Int) > (2000:Int))) then (bif (decide ((List.length x:Int)≤(20000:Int))) then (some true) else (bif (decide ((List.length x:Int) > (20100:Int))) then (some true) else ((cimage_Decode x).bind fun x1=>((cref09_Decode x).bind fun x2=>((cref09_Same (x1.1,x2.1)).bind fun x3=>(bif x3 then (bif (x1.2==x2.2) then (some (eqD .str x x)) else (some false)) else (some false))))))) else (bif (decide ((List.length x:Int) > (20100:Int))) then (some true) else ((cimage_Decode x).bind fun x4=>((cref09_Decode x).bind fun x5=>((cref09_Same (x4.1,x5.1)).bind fun x6=>(bif x6 then (bif (x4.2==x5.2) then (some (eqD .str x x)) else (some false)) else (some false)))))))
def mlaw09_ImageReads (N:Nat) (x:Y6):Option (Bool):=nlaw09_ImageReads x
theorem jlaw09_ImageReads (N:Nat) (x:Y6):rise (Elaw09_ImageReads) Tlaw09_ImageReads 6 N Tryz.f5 [Z9] [.bool] [false] x=nlaw09_ImageReads x:=by kernel_rfl
theorem llaw09_ImageReads (N:Nat) (x:Y6):rise (Elaw09_ImageReads) Tlaw09_ImageReads 6 N Tryz.f5 [Z9] [.bool] [false] x=mlaw09_ImageReads N x:=(jlaw09_ImageReads N x).trans rfl
def claw09_ImageReads (x:Y6):Option (Bool):=mlaw09_ImageReads big x
def Glaw09_ImageReads:Fn2:=⟨[Z9],[.bool],[false],fun x=>claw09_ImageReads x⟩
theorem Llaw09_ImageReads:Rises Tryz.prog 5 Glaw09_ImageReads:=rises_of (E:=Elaw09_ImageReads) ⟨tabOk,(fsCons2 Lz72 (fsCons2 Lz124 (fsCons2 Lz118 fsNil2))),fun _ _ _=>rfl,mixed,inlNil,rcsNil,owsNil⟩ Tryz.func5 rfl (by decide) (by kernel_rfl) (by kernel_rfl) (by kernel_rfl) (by kernel_rfl) (fun x r _ h=>⟨Tlaw09_ImageReads,6,big,(llaw09_ImageReads big x).trans h⟩)
end Go.Proofs.YtlhnlcbcikbokaaGreatDoor
