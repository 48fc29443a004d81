package towpath_test

import (
	"fmt"

	"towpath/api"
	"towpath/towpath"
)

func ExampleMost() {
	f := api.Flow{Size: 2, Peak: 12, Burst: 6, Rate: 3, Due: 20}
	fmt.Println(towpath.Most(f, 8))
	fmt.Println(towpath.Most(api.Flow{}, 8))
	// Output:
	// 8 0
	// 0 1
}

func ExampleTest() {
	f := api.Flow{Size: 2, Peak: 12, Burst: 6, Rate: 3, Due: 20}
	g := api.Flow{Size: 8, Peak: 12, Burst: 8, Rate: 0, Due: 14}
	fmt.Println(towpath.Test([]api.Flow{f}))
	fmt.Println(towpath.Test([]api.Flow{g}))
	// Output:
	// 0 0
	// 14 3
}

func ExampleLine() {
	l, _ := towpath.New([]api.Flow{{Size: 2, Peak: 12, Burst: 2, Rate: 3, Due: 20}})
	l.Send(0, 2)
	l.Send(0, 2)
	l.Other(5)
	l.Run(9)
	fmt.Println(l.Gone())
	fmt.Println(l.Look())
	l.Run(11)
	fmt.Println(l.Gone())
	// Output:
	// [{0 0 2 0 0 2} {-1 0 5 0 2 7}]
	// {9 [0] [] 0 0 true}
	// [{0 1 2 8 8 10}]
}

func ExampleLine_Setup() {
	l, _ := towpath.New(nil)
	tight := api.Flow{Size: 8, Peak: 12, Burst: 8, Rate: 0, Due: 15}
	fmt.Println(l.Setup(tight))
	fmt.Println(l.Setup(tight))
	l.Send(0, 8)
	l.Run(1)
	l.Teardown(0)
	fmt.Println(l.Look())
	fmt.Println(l.Setup(tight))
	l.Run(8)
	fmt.Println(l.Setup(tight))
	// Output:
	// 0 0 0
	// 0 15 3
	// {1 [] [0] 0 0 true}
	// 0 15 3
	// 1 0 0
}
